package tests

import (
	"testing"

	"loop.example/g00461/impl"
)

// orderSig: 0 tt, 1 a, 2 b, 3 g of one, 4 h of two, 5 f and 6 e, blind, 7 k of three.
func orderSig() []impl.Sym {
	return []impl.Sym{plain("tt", 0), plain("a", 0), plain("b", 0), plain("g", 1), plain("h", 2), blind("f", 2), blind("e", 2), plain("k", 3)}
}

// orderTerms are right terms of orderSig, no two the same.
func orderTerms() []impl.Term {
	out := []impl.Term{vr(0), vr(1), fn(0), fn(1), fn(2)}
	few := out[:5:5]
	for i, x := range few {
		out = append(out, fn(3, x), fn(3, fn(3, x)), fn(3, fn(3, fn(3, x))))
		for k, y := range few {
			out = append(out, fn(4, x, y), fn(3, fn(4, x, y)))
			if k < i {
				continue
			}
			f := oneForm(orderSig(), fn(5, x, y))
			e := oneForm(orderSig(), fn(6, x, y))
			out = append(out, f, e, fn(3, f), oneForm(orderSig(), fn(5, f, vr(0))), oneForm(orderSig(), fn(5, e, fn(1))), fn(7, x, y, f))
		}
	}
	return onceEach(out)
}

func onceEach(list []impl.Term) []impl.Term {
	seen := map[string]bool{}
	var out []impl.Term
	for _, x := range list {
		if text := textOfAll(x); !seen[text] {
			seen[text] = true
			out = append(out, x)
		}
	}
	return out
}

func howOften(t impl.Term, v int) int {
	n := 0
	for _, x := range partsList(t) {
		if x.F == -1 && x.V == v {
			n++
		}
	}
	return n
}

// isGreater is the document's sentence on Greater, word by word.
func isGreater(s []impl.Sym, a impl.Term, b impl.Term) bool {
	if !isOk(s, a) || !isOk(s, b) {
		return false
	}
	for v := 0; v <= 99; v++ {
		if howOften(a, v) < howOften(b, v) {
			return false
		}
	}
	if weighs(s, a) > weighs(s, b) {
		return true
	}
	return weighs(s, a) == weighs(s, b) && !hasVariable(a) && !hasVariable(b) && isBefore(b, a)
}

// putFor is t with terms in the place of variables, in one form.
func putFor(s []impl.Sym, put map[int]impl.Term, t impl.Term) impl.Term {
	return oneForm(s, placed(put, t))
}

func placed(put map[int]impl.Term, t impl.Term) impl.Term {
	if x, there := put[t.V]; there && t.F == -1 {
		return x
	}
	kids := make([]impl.Term, len(t.Kids))
	for i, kid := range t.Kids {
		kids[i] = placed(put, kid)
	}
	return impl.Term{F: t.F, V: t.V, Kids: kids}
}

func checkGreater(t *testing.T, sig []impl.Sym, a impl.Term, b impl.Term, want bool) {
	t.Helper()
	s, x, y := withRoom(sig, spareSym), roomyTerm(a), roomyTerm(b)
	for range 2 {
		if got := impl.Greater(s, x, y); got != want {
			t.Errorf("Greater(%v, %v, %v) is %v", sig, a, b, got)
		}
	}
	checkRoom(t, "Greater", s, sig, spareSym)
	checkTermRoom(t, "Greater", x, a)
	checkTermRoom(t, "Greater", y, b)
}

// checkOriented also writes over the answer: first over one of its terms, then over the other, as each must stand in memory of its own.
func checkOriented(t *testing.T, sig []impl.Sym, a impl.Term, b impl.Term, wantL impl.Term, wantR impl.Term, want bool) {
	t.Helper()
	s, x, y := withRoom(sig, spareSym), roomyTerm(a), roomyTerm(b)
	l, r, ok := impl.Oriented(s, x, y)
	if !sameTerm(l, wantL) || !sameTerm(r, wantR) || ok != want {
		t.Errorf("Oriented(%v, %v, %v) is %v, %v, %v, not %v, %v, %v", sig, a, b, l, r, ok, wantL, wantR, want)
	}
	checkOwnLists(t, "Oriented", fn(0, l, r))
	overwrite(l)
	if !sameTerm(r, wantR) {
		t.Errorf("Oriented(%v, %v): its terms share memory", a, b)
	}
	overwrite(r)
	checkRoom(t, "Oriented", s, sig, spareSym)
	checkTermRoom(t, "Oriented, its answer written over", x, a)
	checkTermRoom(t, "Oriented, its answer written over", y, b)
	againL, againR, again := impl.Oriented(s, x, y)
	if !sameTerm(againL, wantL) || !sameTerm(againR, wantR) || again != want {
		t.Errorf("Oriented(%v, %v), asked again, is %v, %v, %v", a, b, againL, againR, again)
	}
}

// checkNeither: neither is greater, whichever is given first.
func checkNeither(t *testing.T, sig []impl.Sym, a impl.Term, b impl.Term) {
	t.Helper()
	checkGreater(t, sig, a, b, false)
	checkGreater(t, sig, b, a, false)
	checkOriented(t, sig, a, b, a, b, false)
	checkOriented(t, sig, b, a, b, a, false)
}

// checkAbove: a is greater, whichever is given first.
func checkAbove(t *testing.T, sig []impl.Sym, a impl.Term, b impl.Term) {
	t.Helper()
	checkGreater(t, sig, a, b, true)
	checkGreater(t, sig, b, a, false)
	checkOriented(t, sig, a, b, a, b, true)
	checkOriented(t, sig, b, a, a, b, true)
}
