package tests

import (
	"math"
	"slices"
	"testing"

	"loop.example/g00461/impl"
)

func TestMaxParts(t *testing.T) {
	if impl.MaxParts != 60 {
		t.Errorf("MaxParts is %d", impl.MaxParts)
	}
}

func checkOk(t *testing.T, sig []impl.Sym, x impl.Term, want bool) {
	t.Helper()
	s, arg := withRoom(sig, spareSym), roomyTerm(x)
	for range 2 {
		if got := impl.TermOk(s, arg); got != want {
			t.Errorf("TermOk(%v, %v) is %v", sig, x, got)
		}
	}
	checkRoom(t, "TermOk", s, sig, spareSym)
	checkTermRoom(t, "TermOk", arg, x)
}

// someSig has 0 tt, 1 a, 2 g of one, 3 h of two, 4 k3 of three, 5 f, blind.
func TestTermOkTakes(t *testing.T) {
	a := fn(1)
	for _, x := range []impl.Term{
		{}, vr(0), vr(1), vr(98), vr(99), a, {F: 1, Kids: []impl.Term{}},
		fn(2, a), fn(2, vr(99)), fn(2, fn(2, fn(2, vr(0)))),
		fn(3, a, a), fn(3, vr(1), vr(0)), fn(3, fn(3, a, vr(0)), fn(2, a)),
		fn(4, a, vr(0), a), fn(4, fn(4, vr(0), vr(0), vr(0)), fn(3, a, a), fn(0)),
		fn(5, vr(0), a), fn(5, a, a), fn(5, vr(0), vr(0)), fn(5, vr(0), vr(1), fn(0), a, a, fn(2, a), fn(2, a)),
		fn(5, a, fn(2, fn(5, vr(0), a))), fn(5, fn(2, fn(5, a, a)), fn(2, fn(5, a, a, a))),
		fn(3, fn(5, vr(0), a), fn(5, vr(0), vr(1))),
	} {
		checkOk(t, someSig(), x, true)
	}
}

func TestTermOkRefuses(t *testing.T) {
	a := fn(1)
	cases := map[string][]impl.Term{
		"variable below 0":         {vr(-1), vr(math.MinInt), fn(2, vr(-1)), fn(5, vr(-1), a)},
		"variable above MaxVar":    {vr(100), vr(math.MaxInt), fn(2, vr(100)), fn(3, a, fn(2, vr(100))), fn(5, a, fn(2, vr(100)))},
		"variable with Kids":       {fn(-1, a), fn(-1, vr(0)), withV(fn(-1, a, a), 3), fn(2, fn(-1, a)), fn(3, a, fn(-1, vr(1)))},
		"F less than -1":           {fn(-2), fn(-3), fn(math.MinInt), fn(-2, a), fn(2, fn(-2)), fn(5, fn(-2), a)},
		"F behind the last":        {fn(6), fn(7), fn(math.MaxInt), fn(6, a, a), fn(2, fn(6)), fn(5, a, fn(6))},
		"function with V":          {withV(fn(1), 1), withV(fn(1), -1), withV(fn(0), 99), withV(fn(2, a), 1), fn(2, withV(a, 1)), withV(fn(5, a, a), 1), fn(5, a, withV(a, 1))},
		"no argument, one more":    {fn(0, a), fn(1, vr(0)), fn(2, fn(1, a))},
		"one argument":             {fn(2), fn(2, a, a), fn(2, fn(2)), fn(5, a, fn(2))},
		"two arguments":            {fn(3), fn(3, a), fn(3, a, a, a), fn(2, fn(3, a))},
		"three arguments":          {fn(4), fn(4, a, a), fn(4, a, a, a, a), fn(2, fn(4, a, a))},
		"blind, less than two":     {fn(5), fn(5, a), fn(5, vr(0)), fn(2, fn(5)), fn(2, fn(5, a)), fn(5, fn(5)), fn(5, fn(5, a, a))},
		"blind within the same":    {fn(5, a, fn(5, a, a)), fn(5, fn(5, a, a), fn(5, a, a)), fn(5, a, a, fn(5, a, a)), fn(5, a, fn(5)), fn(2, fn(5, a, fn(5, a, a)))},
		"blind, not in order":      {fn(5, a, vr(0)), fn(5, vr(1), vr(0)), fn(5, a, fn(0)), fn(5, fn(2, a), a), fn(5, fn(2, a), fn(2, vr(0))), fn(2, fn(5, a, vr(0)))},
		"blind, the last too soon": {fn(5, vr(0), a, vr(0)), fn(5, vr(0), vr(1), vr(2), vr(1)), fn(5, fn(0), a, a, fn(0))},
	}
	for what, list := range cases {
		t.Run(what, func(t *testing.T) {
			for _, x := range list {
				checkOk(t, someSig(), x, false)
			}
		})
	}
}

func TestTermOkWithinAnotherBlind(t *testing.T) {
	a, b := fn(1), fn(2)
	checkOk(t, twoBlind(), fn(4, a, fn(5, a, b)), true)
	checkOk(t, twoBlind(), fn(5, b, fn(4, a, fn(5, a, b))), true)
	checkOk(t, twoBlind(), fn(5, fn(4, a, b), fn(4, a, b), fn(4, a, b, b)), true)
	checkOk(t, twoBlind(), fn(5, fn(4, a, b, b), fn(4, a, b)), false)
	checkOk(t, twoBlind(), fn(5, b, fn(4, a, fn(5, b, a))), false)
	checkOk(t, twoBlind(), fn(5, b, fn(4, a, fn(5, a, fn(5, a, b)))), false)
}

// TestTermOkCountsParts has for each shape what is of 59, 60 and 61 parts.
func TestTermOkCountsParts(t *testing.T) {
	shapes := map[string]func(n int) impl.Term{
		"deep":       func(n int) impl.Term { return deepTerm(2, n-1, fn(1)) },
		"wide":       func(n int) impl.Term { return fn(5, slices.Repeat([]impl.Term{fn(1)}, n-1)...) },
		"variables":  func(n int) impl.Term { return fn(5, slices.Repeat([]impl.Term{vr(4)}, n-1)...) },
		"the right":  func(n int) impl.Term { return fn(3, fn(1), deepTerm(2, n-3, fn(1))) },
		"wide, deep": func(n int) impl.Term { return fn(2, fn(2, fn(5, slices.Repeat([]impl.Term{fn(1)}, n-3)...))) },
		"both sides": func(n int) impl.Term {
			return fn(3, fn(5, slices.Repeat([]impl.Term{vr(0)}, 29)...), deepTerm(2, n-32, vr(0)))
		},
	}
	for what, shape := range shapes {
		t.Run(what, func(t *testing.T) {
			for _, n := range []int{59, 60, 61, 62} {
				x := shape(n)
				if parts := len(partsList(x)); parts != n {
					t.Fatalf("the test made %d parts, not %d", parts, n)
				}
				checkOk(t, someSig(), x, n <= 60)
			}
		})
	}
}

func TestTermOkWantsSigOk(t *testing.T) {
	for what, sig := range wrongSigs() {
		t.Run(what, func(t *testing.T) {
			for _, x := range []impl.Term{{}, vr(0), fn(1), fn(1, vr(0)), fn(1, vr(0), vr(0))} {
				checkOk(t, sig, x, false)
			}
		})
	}
	for what, sig := range rightSigs() {
		t.Run(what, func(t *testing.T) {
			checkOk(t, sig, impl.Term{}, true)
			checkOk(t, sig, vr(99), true)
			checkOk(t, sig, fn(len(sig)), false)
		})
	}
}

func TestTermOkDoesNotSeeSpareRoom(t *testing.T) {
	if sig := someSig(); impl.TermOk(sig[:2], fn(2, fn(1))) || !impl.TermOk(sig[:3], fn(2, fn(1))) {
		t.Error("a function behind the last one is one")
	}
}

func TestTermOkOfAll(t *testing.T) {
	for what, sig := range formSigs() {
		t.Run(what, func(t *testing.T) {
			for _, x := range formTerms() {
				checkOk(t, sig, x, isOk(sig, x))
				y := oneForm(sig, x)
				checkOk(t, sig, y, isOk(sig, y))
			}
		})
	}
}

// TestTermOkOfTooMuch: a term may be deeper than calls can be nested, or have no end.
func TestTermOkOfTooMuch(t *testing.T) {
	const deep = 1 << 20
	for _, x := range []impl.Term{deepTerm(2, deep, fn(1)), deepTerm(5, deep, fn(1)), loopedTerm(3), loopedTerm(5), loopedTerm(-1)} {
		if impl.TermOk(someSig(), x) {
			t.Errorf("TermOk takes a term of function %d that is too large", x.F)
		}
	}
}
