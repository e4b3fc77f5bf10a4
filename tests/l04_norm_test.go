package tests

import (
	"slices"
	"testing"

	"loop.example/g00461/impl"
)

// checkNorm also writes over the answer, as one that shares memory with its argument would change it.
func checkNorm(t *testing.T, sig []impl.Sym, x impl.Term, want impl.Term) {
	t.Helper()
	s, arg := withRoom(sig, spareSym), roomyTerm(x)
	got := impl.Norm(s, arg)
	if !sameTerm(got, want) {
		t.Errorf("Norm(%v) is %v, not %v", x, got, want)
	}
	if again := impl.Norm(s, got); !sameTerm(again, got) {
		t.Errorf("Norm(%v), of which the one form is %v", got, again)
	}
	checkOwnLists(t, "Norm", got)
	overwrite(got)
	checkTermRoom(t, "Norm, its answer written over", arg, x)
	checkRoom(t, "Norm", s, sig, spareSym)
	if again := impl.Norm(s, arg); !sameTerm(again, want) {
		t.Errorf("Norm(%v), asked again, is %v, not %v", x, again, want)
	}
}

func TestNorm(t *testing.T) {
	a, b := fn(1), fn(2)
	cases := []struct {
		term impl.Term
		want impl.Term
	}{
		{impl.Term{}, impl.Term{}},
		{vr(3), vr(3)},
		{a, a},
		{fn(9), fn(9)},
		{fn(-2, b, a), fn(-2, b, a)},
		{fn(-2, fn(4, b, a)), fn(-2, fn(4, a, b))},
		{fn(3, b, a), fn(3, b, a)},
		{fn(3, fn(3, b, a), vr(0)), fn(3, fn(3, b, a), vr(0))},
		{fn(4, a, b), fn(4, a, b)},
		{fn(4, b, a), fn(4, a, b)},
		{fn(4, a, a, vr(0), a), fn(4, vr(0), a, a, a)},
		{fn(4, fn(4, b, vr(1)), a), fn(4, vr(1), a, b)},
		{fn(4, a, fn(4, b, fn(4, vr(2), fn(4, a, vr(1))))), fn(4, vr(1), vr(2), a, a, b)},
		{fn(4, fn(4, fn(4, fn(4, b, a), b), a), b), fn(4, a, a, b, b, b)},
		{fn(4, fn(4, fn(4, b, a), fn(4, a, vr(0))), fn(4, fn(4, b, vr(0)), b)), fn(4, vr(0), vr(0), a, a, b, b, b)},
		{fn(4, fn(5, b, a), fn(5, a, b)), fn(4, fn(5, a, b), fn(5, a, b))},
		{fn(4, fn(5, fn(4, b, a), a), b), fn(4, b, fn(5, a, fn(4, a, b)))},
		{fn(4, fn(5, fn(4, fn(4, b, a), a), fn(5, b, a)), fn(4, b, a)), fn(4, a, b, fn(5, a, b, fn(4, a, a, b)))},
		{fn(3, fn(4, b, a), fn(4, a, b)), fn(3, fn(4, a, b), fn(4, a, b))},
		{fn(4, fn(3, fn(4, b, a), a), a), fn(4, a, fn(3, fn(4, a, b), a))},
		{fn(4), fn(4)},
		{fn(4, a), fn(4, a)},
		{fn(4, fn(4)), fn(4)},
		{fn(4, fn(4, fn(4, a))), fn(4, a)},
		{fn(4, fn(4), b, fn(4, a)), fn(4, a, b)},
		{fn(4, fn(5), b, fn(5, a)), fn(4, b, fn(5), fn(5, a))},
		{withV(fn(4, b, withV(fn(4, b, a), 7)), 3), withV(fn(4, a, b, b), 3)},
		{withV(fn(-1, b, fn(4, b, a)), 2), withV(fn(-1, b, fn(4, a, b)), 2)},
		{fn(6, fn(6, b, a), a), fn(6, fn(6, b, a), a)},
	}
	for _, c := range cases {
		checkNorm(t, twoBlind(), c.term, c.want)
	}
	checkNorm(t, nil, fn(4, b, a), fn(4, b, a))
	checkNorm(t, oddBlind(), fn(4, b, fn(4, b, a)), fn(4, a, b, b))
	checkNorm(t, twoBlind()[:4], fn(4, b, fn(4, b, a)), fn(4, b, fn(4, b, a)))
}

// TestOneFormOfOneForm is asked of many terms, wrong ones among them.
func TestOneFormOfOneForm(t *testing.T) {
	for what, sig := range formSigs() {
		t.Run(what, func(t *testing.T) {
			for _, x := range formTerms() {
				checkNorm(t, sig, x, oneForm(sig, x))
			}
		})
	}
}

// bracketed are all ways to set brackets around list, by f of two each.
func bracketed(f int, list []impl.Term) []impl.Term {
	if len(list) == 1 {
		return list
	}
	var out []impl.Term
	for cut := 1; cut < len(list); cut++ {
		for _, x := range bracketed(f, list[:cut]) {
			for _, y := range bracketed(f, list[cut:]) {
				out = append(out, fn(f, x, y))
			}
		}
	}
	return out
}

// orders are all orders of list.
func orders(list []impl.Term) [][]impl.Term {
	if len(list) == 0 {
		return [][]impl.Term{nil}
	}
	var out [][]impl.Term
	for i, first := range list {
		rest := slices.Concat(list[:i], list[i+1:])
		for _, order := range orders(rest) {
			out = append(out, append([]impl.Term{first}, order...))
		}
	}
	return out
}

// TestAlikeIsTheSame: whatever order and brackets were, there is one form, and TermOk takes it.
func TestAlikeIsTheSame(t *testing.T) {
	want := fn(4, vr(0), fn(1), fn(1), fn(3, fn(2), fn(1)), fn(5, fn(1), fn(2)))
	if !impl.TermOk(twoBlind(), want) {
		t.Fatalf("TermOk(%v) is false", want)
	}
	for _, order := range orders([]impl.Term{fn(5, fn(2), fn(1)), fn(3, fn(2), fn(1)), fn(1), vr(0), fn(1)}) {
		for _, x := range bracketed(4, order) {
			if got := impl.Norm(twoBlind(), x); !sameTerm(got, want) {
				t.Errorf("Norm(%v) is %v, not %v", x, got, want)
			}
		}
	}
}

func TestNormOfDeepTerm(t *testing.T) {
	const deep = 1 << 20
	x := deepTerm(3, deep, fn(4, fn(2), fn(1)))
	if got := impl.Norm(twoBlind(), x); !impl.TermSame(got, deepTerm(3, deep, fn(4, fn(1), fn(2)))) {
		t.Error("Norm of a deep term")
	}
	if got := impl.Norm(twoBlind(), deepTerm(4, deep, fn(2))); !sameTerm(got, fn(4, fn(2))) {
		t.Error("Norm of a blind function, deep within the same one")
	}
}

// TestNormOfManyJoined has a blind function deep within the same one on either side, with a Kid more each time.
func TestNormOfManyJoined(t *testing.T) {
	const deep = 1 << 15
	var want []impl.Term
	left, right := fn(4), fn(4)
	for i := range deep {
		want = append(want, vr(i))
		left, right = fn(4, left, vr(deep-1-i)), fn(4, vr(i), right)
	}
	for _, x := range []impl.Term{left, right} {
		if got := impl.Norm(twoBlind(), x); !sameTerm(got, fn(4, want...)) {
			t.Errorf("Norm of many joined has %d Kids", len(got.Kids))
		}
	}
}
