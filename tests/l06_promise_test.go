package tests

import (
	"maps"
	"slices"
	"testing"

	"loop.example/g00461/impl"
)

// TestPutTwiceIsAsPutOnce is promise 6: of all that is SubOk, and of terms that are not TermOk, too.
func TestPutTwiceIsAsPutOnce(t *testing.T) {
	s := orderSig()
	asked := 0
	terms := append(orderTerms(), formTerms()...)
	for i, u := range manySubs() {
		if !impl.SubOk(s, u) {
			continue
		}
		asked++
		for k := i % 9; k < len(terms); k += 9 {
			x := terms[k]
			once := impl.Apply(s, u, x)
			if twice := impl.Apply(s, u, once); !sameTerm(twice, once) {
				t.Errorf("%v put in %v is %v, put again %v", u, x, once, twice)
			}
		}
	}
	if asked < 40 {
		t.Errorf("only %d were asked", asked)
	}
}

// TestPutIsGone: of what is SubOk no V stands in the answer any more, but as one with Kids.
func TestPutIsGone(t *testing.T) {
	s := orderSig()
	for _, u := range manySubs() {
		if !impl.SubOk(s, u) {
			continue
		}
		for _, x := range orderTerms() {
			got := impl.Apply(s, u, x)
			for _, b := range u {
				if howOften(got, b.V) > 0 {
					t.Errorf("%d stands in %v, which is %v put in %v", b.V, got, u, x)
				}
			}
		}
	}
}

// TestPutTwiceIsMoreElsewhere: that promise 6 needs SubOk is seen where it does not hold.
func TestPutTwiceIsMoreElsewhere(t *testing.T) {
	s, x := orderSig(), fn(4, vr(0), vr(1))
	for _, u := range [][]impl.Bind{puts(fn(3, vr(0))), puts(vr(1), vr(0)), puts(vr(1), fn(2)), puts(fn(1), fn(3, vr(0)))} {
		once := impl.Apply(s, u, x)
		if impl.SubOk(s, u) || sameTerm(impl.Apply(s, u, once), once) {
			t.Errorf("%v, put in %v, is %v, and put again no more", u, x, once)
		}
	}
}

// manySubs are of all pairs of some terms for X0 and X1, X1 and X2, one of them alone, and those of rightSubs.
func manySubs() [][]impl.Bind {
	a, b := fn(1), fn(2)
	terms := []impl.Term{a, vr(0), vr(1), vr(2), vr(9), fn(3, vr(9)), fn(5, a, b), fn(5, vr(3), vr(9)), fn(6, vr(9), a), fn(4, fn(5, vr(9), b), vr(3)), fn(6, a, fn(5, vr(3), vr(9)))}
	var out [][]impl.Bind
	for _, x := range terms {
		out = append(out, bound(one(0, x)), bound(one(1, x)))
		for _, y := range terms {
			out = append(out, puts(x, y), bound(one(1, x), one(2, y)))
		}
	}
	right := rightSubs()
	for _, what := range slices.Sorted(maps.Keys(right)) {
		out = append(out, right[what])
	}
	return out
}

// rightPuts are of terms that are TermOk in one form; whether a V of them stands in what is put does not matter. (A blind function of none, which is not TermOk, would be gone where it is put into the same function, and the whole be less heavy.)
func rightPuts() [][]impl.Bind {
	s := orderSig()
	var out [][]impl.Bind
	for i, u := range append(oddSubs(), manySubs()...) {
		right := i%5 == 0 || i < len(oddSubs())
		for _, b := range u {
			right = right && isOk(s, oneForm(s, b.T))
		}
		if right {
			out = append(out, u)
		}
	}
	return out
}

// TestGreaterStaysSoWhateverIsPut is what promise 5 says of what is put, told by Apply itself: of what stays TermOk.
func TestGreaterStaysSoWhateverIsPut(t *testing.T) {
	s, all, puttings := orderSig(), orderTerms(), rightPuts()
	asked := 0
	for i, a := range all {
		for k := i % 3; k < len(all); k += 3 {
			b := all[k]
			if !hasVariable(a) || !impl.Greater(s, a, b) {
				continue
			}
			for _, u := range puttings {
				x, y := impl.Apply(s, u, a), impl.Apply(s, u, b)
				if !isOk(s, x) || !isOk(s, y) {
					continue
				}
				asked++
				if !impl.Greater(s, x, y) || impl.Greater(s, y, x) {
					t.Errorf("%v is greater than %v, but with %v put %v not than %v", a, b, u, x, y)
				}
			}
		}
	}
	if asked < 10000 {
		t.Errorf("only %d were asked", asked)
	}
}

// TestAddedIsPutAfter: SubAdd to what is SubOk puts both, the first ahead of the other one, and stays SubOk where the new V is not put yet and its t has none of what is.
func TestAddedIsPutAfter(t *testing.T) {
	s := orderSig()
	news := []impl.Bind{one(9, fn(1)), one(3, fn(5, fn(1), vr(8))), one(9, fn(6, vr(3), vr(8))), one(50, vr(51)), one(9, fn(5, fn(2), vr(3)))}
	asked := 0
	for _, u := range manySubs() {
		for _, b := range news {
			_, there := indexOf(u, b.V)
			if !impl.SubOk(s, u) || there || !sameTerm(impl.Apply(s, u, b.T), b.T) {
				continue
			}
			asked++
			both := impl.SubAdd(s, u, b.V, b.T)
			if !impl.SubOk(s, both) {
				t.Errorf("%v with %v is %v, not SubOk", u, b, both)
			}
			for _, x := range orderTerms() {
				inTurn := impl.Apply(s, bound(b), impl.Apply(s, u, x))
				if got := impl.Apply(s, both, x); !sameTerm(got, inTurn) {
					t.Errorf("%v with %v, put in %v, is %v, in turn %v", u, b, x, got, inTurn)
				}
			}
		}
	}
	if asked < 100 {
		t.Errorf("only %d were asked", asked)
	}
}

func indexOf(u []impl.Bind, v int) (int, bool) {
	for i, b := range u {
		if b.V == v {
			return i, true
		}
	}
	return 0, false
}
