package tests

import (
	"math"
	"testing"

	"loop.example/g00461/impl"
)

// checkMake also writes over the answer, as one that shares memory with kids would change them.
func checkMake(t *testing.T, sig []impl.Sym, f int, kids []impl.Term, want impl.Term) {
	t.Helper()
	s, arg := withRoom(sig, spareSym), roomyTerm(fn(f, kids...))
	got := impl.Make(s, f, arg.Kids)
	if !sameTerm(got, want) {
		t.Errorf("Make(%d, %v) is %v, not %v", f, kids, got, want)
	}
	checkOwnLists(t, "Make", got)
	overwrite(got)
	checkTermRoom(t, "Make, its answer written over", arg, fn(f, kids...))
	checkRoom(t, "Make", s, sig, spareSym)
	if again := impl.Make(s, f, arg.Kids); !sameTerm(again, want) {
		t.Errorf("Make(%d, %v), asked again, is %v, not %v", f, kids, again, want)
	}
}

func TestMake(t *testing.T) {
	a, b := fn(1), fn(2)
	cases := []struct {
		f    int
		kids []impl.Term
		want impl.Term
	}{
		{0, nil, impl.Term{}},
		{1, nil, a},
		{1, []impl.Term{}, a},
		{1, []impl.Term{fn(4, b, a)}, fn(1, fn(4, a, b))},
		{3, []impl.Term{b, a}, fn(3, b, a)},
		{3, []impl.Term{fn(4, b, a), fn(3, b, a)}, fn(3, fn(4, a, b), fn(3, b, a))},
		{3, nil, fn(3)},
		{3, []impl.Term{b}, fn(3, b)},
		{4, nil, impl.Term{}},
		{4, []impl.Term{}, impl.Term{}},
		{4, []impl.Term{a}, a},
		{4, []impl.Term{vr(7)}, vr(7)},
		{4, []impl.Term{fn(4, b, a)}, fn(4, a, b)},
		{4, []impl.Term{fn(4, b, fn(4, b, a))}, fn(4, a, b, b)},
		{4, []impl.Term{fn(4)}, fn(4)},
		{4, []impl.Term{fn(4, a)}, fn(4, a)},
		{4, []impl.Term{fn(5, b, a)}, fn(5, a, b)},
		{4, []impl.Term{fn(3, fn(4, b, a), a)}, fn(3, fn(4, a, b), a)},
		{4, []impl.Term{fn(9, fn(4, b, a))}, fn(9, fn(4, a, b))},
		{4, []impl.Term{withV(fn(4, b, a), 5)}, withV(fn(4, a, b), 5)},
		{4, []impl.Term{b, a}, fn(4, a, b)},
		{4, []impl.Term{b, b}, fn(4, b, b)},
		{4, []impl.Term{b, a, vr(1), b, vr(0)}, fn(4, vr(0), vr(1), a, b, b)},
		{4, []impl.Term{b, fn(4, b, a)}, fn(4, a, b, b)},
		{4, []impl.Term{fn(4, b, fn(4, b, a)), fn(5, b, fn(5, b, a))}, fn(4, a, b, b, fn(5, a, b, b))},
		{4, []impl.Term{fn(4), fn(4)}, fn(4)},
		{4, []impl.Term{fn(4), a}, fn(4, a)},
		{5, []impl.Term{fn(4, b, a), a}, fn(5, a, fn(4, a, b))},
	}
	for _, c := range cases {
		checkMake(t, twoBlind(), c.f, c.kids, c.want)
	}
	checkMake(t, oddBlind(), 4, nil, impl.Term{})
	checkMake(t, oddBlind(), 4, []impl.Term{b}, b)
	checkMake(t, oddBlind(), 4, []impl.Term{b, a}, fn(4, a, b))
}

// TestMakeOfNoFunction: the kids are as they were, not in one form.
func TestMakeOfNoFunction(t *testing.T) {
	lists := [][]impl.Term{
		nil,
		{},
		{fn(4, fn(2), fn(1))},
		{fn(2), fn(1)},
		{vr(3), fn(4, fn(2), fn(4, fn(2), fn(1))), withV(fn(1), 6), fn(-1, fn(4, fn(2), fn(1)))},
	}
	for _, kids := range lists {
		for _, f := range append(strangeNumbers(), 6, 7) {
			checkMake(t, twoBlind(), f, kids, fn(f, kids...))
		}
		checkMake(t, twoBlind()[:4], 4, kids, fn(4, kids...))
		checkMake(t, nil, 0, kids, fn(0, kids...))
	}
}

// makes is the document's sentence on Make, word by word.
func makes(s []impl.Sym, f int, kids []impl.Term) impl.Term {
	switch {
	case f < 0 || f >= len(s):
		return fn(f, kids...)
	case isAc(s, f) && len(kids) == 0:
		return impl.Term{}
	case isAc(s, f) && len(kids) == 1:
		return oneForm(s, kids[0])
	default:
		return oneForm(s, fn(f, kids...))
	}
}

func TestMakeOfAll(t *testing.T) {
	for what, sig := range formSigs() {
		t.Run(what, func(t *testing.T) {
			for _, x := range formTerms() {
				checkMake(t, sig, x.F, x.Kids, makes(sig, x.F, x.Kids))
				checkMake(t, sig, 4, []impl.Term{x}, makes(sig, 4, []impl.Term{x}))
			}
		})
	}
}

func checkWeight(t *testing.T, sig []impl.Sym, x impl.Term, want int) {
	t.Helper()
	s, arg := withRoom(sig, spareSym), roomyTerm(x)
	for range 2 {
		if got := impl.Weight(s, arg); got != want {
			t.Errorf("Weight(%v, %v) is %d, not %d", sig, x, got, want)
		}
	}
	checkRoom(t, "Weight", s, sig, spareSym)
	checkTermRoom(t, "Weight", arg, x)
}

func TestWeight(t *testing.T) {
	a, b := fn(1), fn(2)
	cases := []struct {
		term impl.Term
		want int
	}{
		{impl.Term{}, 1},
		{vr(0), 1},
		{vr(-1), 1},
		{vr(100), 1},
		{a, 1},
		{withV(a, 5), 1},
		{fn(-2), 1},
		{fn(9), 1},
		{fn(3, a, vr(1)), 3},
		{fn(3, fn(3, a, b), vr(1)), 5},
		{fn(1, a, b, a), 4},
		{fn(-1, a, vr(0)), 3},
		{fn(9, a, vr(0)), 3},
		{fn(-2, a), 2},
		{fn(4), 1},
		{fn(4, a), 1},
		{fn(4, vr(0)), 1},
		{fn(4, a, b), 3},
		{fn(4, a, b, b), 5},
		{fn(4, b, vr(0), a, a, a), 9},
		{fn(4, a, fn(4, a, b)), 5},
		{fn(4, fn(4)), 1},
		{fn(4, fn(4, fn(4, a))), 1},
		{fn(4, fn(4), a), 3},
		{fn(4, a, fn(5, a, b)), 5},
		{fn(3, fn(4, a, b, vr(0)), fn(5)), 7},
		{withV(fn(4, a, b), 8), 3},
	}
	for _, c := range cases {
		checkWeight(t, twoBlind(), c.term, c.want)
	}
	checkWeight(t, nil, fn(4, a, b), 3)
	checkWeight(t, nil, fn(4, a, b, b), 4)
	checkWeight(t, oddBlind(), fn(4, a, b, b), 5)
	checkWeight(t, twoBlind()[:4], fn(4, a), 2)
}

func checkGround(t *testing.T, x impl.Term, want bool) {
	t.Helper()
	arg := roomyTerm(x)
	for range 2 {
		if got := impl.Ground(arg); got != want {
			t.Errorf("Ground(%v) is %v", x, got)
		}
	}
	checkTermRoom(t, "Ground", arg, x)
}

func TestGround(t *testing.T) {
	a := fn(1)
	for _, x := range []impl.Term{{}, a, withV(a, 4), withV(fn(-2), 4), fn(9), fn(math.MinInt), fn(3, a, a), fn(4, a, fn(2, fn(9))), fn(-2, a)} {
		checkGround(t, x, true)
	}
	for _, x := range []impl.Term{vr(0), vr(99), vr(100), vr(-1), fn(2, vr(0)), fn(3, a, vr(0)), fn(4, a, fn(2, fn(3, a, vr(5)))), fn(-2, vr(1)), fn(9, vr(1)), fn(-1, a)} {
		checkGround(t, x, false)
	}
}

func TestWeightAndGroundOfAll(t *testing.T) {
	for what, sig := range formSigs() {
		t.Run(what, func(t *testing.T) {
			for _, x := range formTerms() {
				checkWeight(t, sig, x, weighs(sig, x))
				checkGround(t, x, !hasVariable(x))
			}
		})
	}
}

func TestMakeWeightGroundOfDeepTerm(t *testing.T) {
	const deep = 1 << 18
	x, y := deepTerm(2, deep, vr(3)), deepTerm(2, deep, fn(1))
	if impl.Weight(someSig(), x) != deep+1 || impl.Ground(x) || !impl.Ground(y) {
		t.Error("a deep term is not weighed, or its variable not seen")
	}
	if got := impl.Make(someSig(), 9, []impl.Term{x}); !impl.TermSame(got, fn(9, x)) {
		t.Error("Make of no function of a deep term")
	}
	if got := impl.Make(someSig(), 5, []impl.Term{x, y}); !impl.TermSame(got, fn(5, x, y)) {
		t.Error("Make of a blind function of deep terms")
	}
}
