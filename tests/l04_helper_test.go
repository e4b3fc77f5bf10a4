package tests

import (
	"math"
	"testing"

	"loop.example/g00461/impl"
)

// twoBlind: 0 tt, 1 a, 2 b, 3 h of two, 4 f and 5 e, blind.
func twoBlind() []impl.Sym {
	return []impl.Sym{plain("tt", 0), plain("a", 0), plain("b", 0), plain("h", 2), blind("f", 2), blind("e", 2)}
}

// oddBlind is refused by SigOk: its f has three arguments and is blind.
func oddBlind() []impl.Sym {
	sig := twoBlind()
	sig[4] = blind("f", 3)
	return sig
}

// formSigs are those that chapter 4 is asked with.
func formSigs() map[string][]impl.Sym {
	return map[string][]impl.Sym{
		"none":      nil,
		"some":      someSig(),
		"two blind": twoBlind(),
		"odd":       oddBlind(),
		"cut":       twoBlind()[:4],
	}
}

// isAc does not ask the program.
func isAc(s []impl.Sym, f int) bool { return f >= 0 && f < len(s) && s[f].Ac }

// isOk is the document's sentence on TermOk, word by word.
func isOk(s []impl.Sym, t impl.Term) bool {
	if !impl.SigOk(s) || len(partsList(t)) > 60 {
		return false
	}
	for _, x := range partsList(t) {
		if !isPartOk(s, x) {
			return false
		}
	}
	return true
}

func isPartOk(s []impl.Sym, x impl.Term) bool {
	if x.F == -1 {
		return x.V >= 0 && x.V <= 99 && len(x.Kids) == 0
	}
	if x.F < 0 || x.F >= len(s) || x.V != 0 {
		return false
	}
	if !s[x.F].Ac {
		return len(x.Kids) == s[x.F].Arity
	}
	for i, kid := range x.Kids {
		if kid.F == x.F || i > 0 && isBefore(kid, x.Kids[i-1]) {
			return false
		}
	}
	return len(x.Kids) >= 2
}

// oneForm is the document's sentence on Norm, word by word.
func oneForm(s []impl.Sym, t impl.Term) impl.Term {
	var kids []impl.Term
	for _, kid := range t.Kids {
		kid = oneForm(s, kid)
		if isAc(s, t.F) && kid.F == t.F {
			kids = append(kids, kid.Kids...)
		} else {
			kids = append(kids, kid)
		}
	}
	for i := 1; i < len(kids) && isAc(s, t.F); i++ {
		for k := i; k > 0 && isBefore(kids[k], kids[k-1]); k-- {
			kids[k], kids[k-1] = kids[k-1], kids[k]
		}
	}
	return impl.Term{F: t.F, V: t.V, Kids: kids}
}

// weighs is the document's sentence on Weight, word by word.
func weighs(s []impl.Sym, t impl.Term) int {
	n := 1
	if isAc(s, t.F) && len(t.Kids) > 0 {
		n = len(t.Kids) - 1
	}
	for _, kid := range t.Kids {
		n += weighs(s, kid)
	}
	return n
}

func hasVariable(t impl.Term) bool {
	for _, x := range partsList(t) {
		if x.F == -1 {
			return true
		}
	}
	return false
}

// nestedTerms are two functions deep, blind ones within the same one, within the other one, and within h, in all orders; the functions are those of twoBlind.
func nestedTerms() []impl.Term {
	inner := []impl.Term{fn(2), vr(1), fn(1), vr(0)}
	for _, f := range []int{3, 4, 5} {
		for _, x := range inner[:4] {
			for _, y := range inner[:3] {
				inner = append(inner, fn(f, x, y))
			}
		}
		inner = append(inner, fn(f), fn(f, fn(2)))
	}
	out := inner
	for _, f := range []int{3, 4, 5} {
		for _, x := range inner {
			for _, y := range inner {
				out = append(out, fn(f, x, y))
			}
			out = append(out, fn(f, x), fn(f, fn(2), x, fn(1)))
		}
	}
	return out
}

// formTerms are those that chapter 4 is asked with, wrong ones among them.
func formTerms() []impl.Term { return append(someTerms(), nestedTerms()...) }

// checkOwnLists: no two lists of Kids within t share memory, the room behind them neither.
func checkOwnLists(t *testing.T, what string, x impl.Term) {
	t.Helper()
	seen := map[*impl.Term]int{}
	for _, part := range partsList(x) {
		all := part.Kids[:cap(part.Kids)]
		for i := range all {
			seen[&all[i]]++
			if seen[&all[i]] > 1 {
				t.Errorf("%s: two lists of %v share memory", what, x)
				return
			}
		}
	}
}

// loopedTerm holds itself: it has no end.
func loopedTerm(f int) impl.Term {
	kids := make([]impl.Term, 2)
	kids[0], kids[1] = fn(f, kids...), fn(f, kids...)
	return fn(f, kids...)
}

// strangeNumbers are no function's, whatever the functions are.
func strangeNumbers() []int { return []int{math.MinInt, -3, -2, -1, 8, 9, math.MaxInt} }
