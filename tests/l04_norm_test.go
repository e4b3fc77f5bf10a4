package tests

import (
	"testing"

	"loop.example/g00461/impl"
)

// checkNorm also writes over the answer, as one that shares memory with its argument would change it.
func checkNorm(t *testing.T, sig []impl.Sym, x impl.Term, want impl.Term) {
	t.Helper()
	s, arg := withRoom(sig, spareSym), roomyTerm(x)
	got := impl.Norm(s, arg)
	if !sameTerm(got, want) {
		t.Errorf("Norm(%v) is %v, not %v", x, got, want)
	}
	if again := impl.Norm(s, got); !sameTerm(again, got) {
		t.Errorf("Norm(%v), of which the one form is %v", got, again)
	}
	overwrite(got)
	checkTermRoom(t, "Norm, its answer written over", arg, x)
	checkRoom(t, "Norm", s, sig, spareSym)
	if again := impl.Norm(s, arg); !sameTerm(again, want) {
		t.Errorf("Norm(%v), asked again, is %v, not %v", x, again, want)
	}
}

// twoBlind: 0 tt, 1 a, 2 b, 3 h of two, 4 f and 5 e, blind.
func twoBlind() []impl.Sym {
	return []impl.Sym{plain("tt", 0), plain("a", 0), plain("b", 0), plain("h", 2), blind("f", 2), blind("e", 2)}
}

func TestNorm(t *testing.T) {
	a, b := fn(1), fn(2)
	cases := []struct {
		term impl.Term
		want impl.Term
	}{
		{impl.Term{}, impl.Term{}},
		{vr(3), vr(3)},
		{a, a},
		{fn(9), fn(9)},
		{fn(-2, b, a), fn(-2, b, a)},
		{fn(3, b, a), fn(3, b, a)},
		{fn(3, fn(3, b, a), vr(0)), fn(3, fn(3, b, a), vr(0))},
		{fn(4, a, b), fn(4, a, b)},
		{fn(4, b, a), fn(4, a, b)},
		{fn(4, a, a, vr(0), a), fn(4, vr(0), a, a, a)},
		{fn(4, fn(4, b, vr(1)), a), fn(4, vr(1), a, b)},
		{fn(4, a, fn(4, b, fn(4, vr(2), fn(4, a, vr(1))))), fn(4, vr(1), vr(2), a, a, b)},
		{fn(4, fn(5, b, a), fn(5, a, b)), fn(4, fn(5, a, b), fn(5, a, b))},
		{fn(4, fn(5, fn(4, b, a), a), b), fn(4, b, fn(5, a, fn(4, a, b)))},
		{fn(3, fn(4, b, a), fn(4, a, b)), fn(3, fn(4, a, b), fn(4, a, b))},
		{fn(4, fn(3, fn(4, b, a), a), a), fn(4, a, fn(3, fn(4, a, b), a))},
		{fn(4), fn(4)},
		{fn(4, a), fn(4, a)},
		{fn(4, fn(4)), fn(4)},
		{fn(4, fn(4), b, fn(4, a)), fn(4, a, b)},
		{withV(fn(4, b, withV(fn(4, b, a), 7)), 3), withV(fn(4, a, b, b), 3)},
		{withV(fn(-1, b, fn(4, b, a)), 2), withV(fn(-1, b, fn(4, a, b)), 2)},
		{fn(6, fn(6, b, a), a), fn(6, fn(6, b, a), a)},
	}
	for _, c := range cases {
		checkNorm(t, twoBlind(), c.term, c.want)
	}
	checkNorm(t, nil, fn(4, b, a), fn(4, b, a))
	checkNorm(t, twoBlind()[:4], fn(4, b, fn(4, b, a)), fn(4, b, fn(4, b, a)))
}

// TestOneFormOfOneForm is asked of many terms, wrong ones among them.
func TestOneFormOfOneForm(t *testing.T) {
	for _, sig := range [][]impl.Sym{nil, someSig(), twoBlind()} {
		for _, x := range someTerms() {
			checkNorm(t, sig, x, impl.Norm(sig, x))
		}
	}
}

func TestNormOfDeepTerm(t *testing.T) {
	const deep = 1 << 20
	x := deepTerm(3, deep, fn(4, fn(2), fn(1)))
	if got := impl.Norm(twoBlind(), x); !impl.TermSame(got, deepTerm(3, deep, fn(4, fn(1), fn(2)))) {
		t.Error("Norm of a deep term")
	}
}
