package tests

import (
	"math"
	"testing"

	"loop.example/g00461/impl"
)

func TestGreaterByWeight(t *testing.T) {
	s, a, b := orderSig(), fn(1), fn(2)
	x, y := vr(0), vr(1)
	pairs := [][2]impl.Term{
		{fn(3, a), a},
		{fn(3, a), b},
		{fn(3, fn(0)), b},
		{fn(4, a, a), fn(3, b)},
		{fn(5, a, a), fn(3, b)},
		{fn(5, a, a, a), fn(4, b, b)},
		{fn(5, a, a, a), fn(6, b, b)},
		{fn(5, a, a, a, a), fn(5, b, b, b)},
		{fn(7, a, a, a), fn(6, b, b)},
		{fn(3, fn(3, fn(3, a))), fn(6, b, b)},
		{fn(5, a, fn(6, a, a)), fn(3, fn(4, b, b))},
		{fn(3, x), x},
		{fn(3, x), a},
		{fn(3, x), b},
		{fn(4, x, y), fn(3, y)},
		{fn(5, x, y), x},
		{fn(5, x, x, y), fn(5, x, y)},
		{fn(5, x, x, y), fn(4, y, x)},
		{fn(4, x, fn(3, y)), fn(5, x, y)},
		{fn(3, vr(99)), vr(99)},
	}
	for _, p := range pairs {
		checkAbove(t, s, p[0], p[1])
	}
}

// TestGreaterByVariables: the first of each pair is heavier; a variable stands in it less often than in the other, as often, or more often.
func TestGreaterByVariables(t *testing.T) {
	s, a := orderSig(), fn(1)
	x, y, z := vr(0), vr(1), vr(99)
	heavy := func(kid impl.Term) impl.Term { return fn(3, fn(3, fn(3, fn(3, kid)))) }
	less := [][2]impl.Term{
		{fn(3, a), x},
		{heavy(a), x},
		{heavy(y), x},
		{heavy(x), z},
		{heavy(z), x},
		{heavy(x), fn(4, x, x)},
		{heavy(x), fn(5, x, x)},
		{heavy(fn(4, x, y)), fn(5, y, y)},
		{heavy(fn(4, x, y)), fn(5, x, x)},
		{heavy(fn(5, x, x)), fn(5, x, x, x)},
		{heavy(fn(4, x, x)), fn(4, x, y)},
		{heavy(fn(4, x, x)), fn(4, y, x)},
		{heavy(fn(7, x, x, y)), fn(7, x, y, z)},
		{heavy(fn(7, x, y, y)), fn(7, x, x, y)},
		{heavy(a), z},
	}
	for _, p := range less {
		checkNeither(t, s, p[0], p[1])
	}
	enough := [][2]impl.Term{
		{heavy(x), x},
		{heavy(z), z},
		{heavy(x), fn(3, x)},
		{heavy(fn(4, x, x)), fn(4, x, x)},
		{heavy(fn(5, x, x)), x},
		{heavy(fn(5, x, x, x)), fn(5, x, x)},
		{heavy(fn(4, x, y)), x},
		{heavy(fn(4, x, y)), y},
		{heavy(fn(4, x, y)), fn(4, y, x)},
		{heavy(fn(7, x, y, z)), fn(4, z, x)},
		{heavy(fn(7, x, y, y)), fn(5, x, y)},
		{heavy(x), a},
		{heavy(z), fn(4, a, a)},
		{heavy(a), a},
	}
	for _, p := range enough {
		checkAbove(t, s, p[0], p[1])
	}
}

func TestGreaterOfOneWeightGround(t *testing.T) {
	s, a, b := orderSig(), fn(1), fn(2)
	lists := [][]impl.Term{
		{fn(0), a, b},
		{fn(3, fn(0)), fn(3, a), fn(3, b)},
		{fn(3, fn(3, b)), fn(4, a, a), fn(4, a, b), fn(4, b, a), fn(5, a, a), fn(5, a, b), fn(5, b, b), fn(6, a, a), fn(6, b, b)},
		{fn(3, fn(3, fn(3, b))), fn(3, fn(4, b, b)), fn(3, fn(5, a, a)), fn(4, fn(3, a), a), fn(5, a, fn(3, a)), fn(7, a, a, a)},
		{fn(5, a, fn(4, a, a)), fn(5, a, fn(6, a, a)), fn(5, a, a, a), fn(5, a, b, b), fn(6, a, fn(5, a, a)), fn(6, a, a, a)},
	}
	for _, list := range lists {
		for i, x := range list {
			checkNeither(t, s, x, x)
			for _, y := range list[:i] {
				checkAbove(t, s, x, y)
			}
		}
	}
}

// TestGreaterOfOneWeightNotGround: a variable in either is enough, wherever the one stands by Before.
func TestGreaterOfOneWeightNotGround(t *testing.T) {
	s, a, b := orderSig(), fn(1), fn(2)
	x, y := vr(0), vr(1)
	pairs := [][2]impl.Term{
		{x, y},
		{x, vr(99)},
		{x, fn(0)},
		{x, a},
		{vr(99), b},
		{fn(3, x), fn(3, y)},
		{fn(3, x), fn(3, a)},
		{fn(3, fn(3, x)), fn(4, a, b)},
		{fn(3, fn(3, a)), fn(4, x, b)},
		{fn(4, x, y), fn(4, y, x)},
		{fn(4, x, y), fn(5, x, y)},
		{fn(5, x, y), fn(6, x, y)},
		{fn(4, x, x), fn(5, x, y)},
		{fn(5, x, x), fn(5, x, y)},
		{fn(5, x, a), fn(5, x, b)},
		{fn(5, a, b), fn(5, x, b)},
		{fn(5, x, y, a), fn(5, x, y, b)},
		{fn(5, x, a, a), fn(5, a, a, b)},
		{fn(4, a, x), fn(4, b, x)},
	}
	for _, p := range pairs {
		checkNeither(t, s, p[0], p[1])
	}
}

func TestNothingIsGreaterThanItself(t *testing.T) {
	for what, sig := range formSigs() {
		t.Run(what, func(t *testing.T) {
			for i, x := range formTerms() {
				if impl.Greater(sig, x, x) {
					t.Errorf("%v is greater than itself", x)
				}
				if i%10 == 0 {
					checkNeither(t, sig, x, x)
				}
			}
		})
	}
	for _, x := range orderTerms() {
		checkNeither(t, orderSig(), x, x)
		// The same lists on both sides, too.
		if impl.Greater(orderSig(), x, x) {
			t.Errorf("%v is greater than itself", x)
		}
		l, r, ok := impl.Oriented(orderSig(), x, x)
		checkOwnLists(t, "Oriented of one term", fn(0, l, r, x))
		if !sameTerm(l, x) || !sameTerm(r, x) || ok {
			t.Errorf("Oriented of %v and itself is %v, %v, %v", x, l, r, ok)
		}
	}
}

// partsOf is a right term of n parts, 4 at least: functions of one around a constant.
func partsOf(n int) impl.Term { return deepTerm(3, n-1, fn(1)) }

// wrongTerms are refused by TermOk at orderSig, each heavier than a constant or before it.
func wrongTerms() map[string]impl.Term {
	a, b := fn(1), fn(2)
	return map[string]impl.Term{
		"61 parts":               partsOf(61),
		"61 parts, blind":        fn(5, make([]impl.Term, 60)...),
		"many parts":             partsOf(100),
		"variable -1":            fn(3, vr(-1)),
		"variable 100":           fn(3, vr(100)),
		"variable 100 alone":     vr(100),
		"the greatest variable":  vr(math.MaxInt),
		"the least variable":     vr(math.MinInt),
		"a variable with Kids":   fn(-1, b),
		"no function":            fn(8),
		"no function within":     fn(3, fn(8)),
		"function -2":            fn(-2),
		"the least function":     fn(math.MinInt, a),
		"the greatest function":  fn(math.MaxInt, a),
		"a constant with V":      withV(b, 1),
		"a V within":             fn(3, withV(b, -1)),
		"a constant with Kids":   fn(2, b),
		"g of none":              fn(3),
		"g of two":               fn(3, b, b),
		"h of one":               fn(4, b),
		"h of three":             fn(4, b, b, b),
		"f of none":              fn(5),
		"f of one":               fn(5, b),
		"f of one within":        fn(3, fn(5, b)),
		"f within f":             fn(5, b, fn(5, b, b)),
		"f not in order":         fn(5, b, a),
		"f not in order within":  fn(3, fn(3, fn(5, b, a))),
		"f not in order, a part": fn(5, a, b, b, a),
		"f, a variable behind":   fn(5, b, vr(0)),
	}
}

func TestGreaterOfWrongTerms(t *testing.T) {
	s := orderSig()
	others := []impl.Term{fn(0), fn(1), fn(2), vr(0), vr(99), fn(3, fn(1)), fn(5, fn(1), fn(2)), partsOf(60)}
	for what, wrong := range wrongTerms() {
		t.Run(what, func(t *testing.T) {
			for _, x := range others {
				checkNeither(t, s, wrong, x)
			}
			for _, x := range wrongTerms() {
				checkNeither(t, s, wrong, x)
			}
		})
	}
}

func TestGreaterAtTheLimits(t *testing.T) {
	s := orderSig()
	checkAbove(t, s, partsOf(60), partsOf(59))
	checkAbove(t, s, partsOf(60), fn(1))
	checkNeither(t, s, partsOf(61), partsOf(60))
	checkNeither(t, s, partsOf(61), partsOf(62))
	checkAbove(t, s, fn(5, make([]impl.Term, 59)...), fn(1))
	checkAbove(t, s, fn(5, make([]impl.Term, 59)...), partsOf(60))
	checkNeither(t, s, fn(5, make([]impl.Term, 60)...), partsOf(60))
	checkAbove(t, s, fn(3, vr(99)), vr(99))
	checkNeither(t, s, fn(3, vr(100)), vr(100))
	checkNeither(t, s, fn(3, vr(-1)), vr(-1))
	checkAbove(t, s, fn(7, fn(1), fn(1), fn(1)), fn(6, fn(2), fn(2)))
}

func TestGreaterOfWrongFunctions(t *testing.T) {
	pairs := [][2]impl.Term{{fn(2), fn(1)}, {fn(1), fn(0)}, {fn(0), vr(0)}, {fn(3, fn(1)), fn(1)}, {fn(3, vr(0)), vr(0)}, {fn(5, fn(1), fn(2), fn(2)), fn(5, fn(1), fn(2))}, {fn(5, fn(2), fn(1)), fn(1)}, {vr(0), vr(0)}}
	sigs := wrongSigs()
	sigs["odd blind"] = oddBlind()
	for what, sig := range sigs {
		t.Run(what, func(t *testing.T) {
			for _, p := range pairs {
				checkNeither(t, sig, p[0], p[1])
			}
		})
	}
	// The same functions, with one that SigOk refuses behind them.
	for _, sym := range []impl.Sym{plain("a", 0), plain("A", 0), plain("c", 4), blind("c", 1)} {
		sig := append(twoBlind(), plain("z", 0), sym)
		checkNeither(t, sig, fn(2), fn(1))
		checkNeither(t, sig, fn(4, fn(1), fn(2)), fn(1))
	}
}

func TestGreaterOfAll(t *testing.T) {
	s, all := orderSig(), orderTerms()
	for i, a := range all {
		if !isOk(s, a) {
			t.Fatalf("%v is not right", a)
		}
		for _, b := range all[:i] {
			up, down := isGreater(s, a, b), isGreater(s, b, a)
			switch {
			case up && down:
				t.Errorf("%v and %v: each is greater", a, b)
			case up:
				checkAbove(t, s, a, b)
			case down:
				checkAbove(t, s, b, a)
			default:
				checkNeither(t, s, a, b)
				if !hasVariable(a) && !hasVariable(b) {
					t.Errorf("%v and %v: neither is greater, without variables", a, b)
				}
			}
		}
	}
}

// TestGreaterOfAllForms asks terms that are not TermOk, too, at functions that SigOk refuses, too.
func TestGreaterOfAllForms(t *testing.T) {
	terms := append(someTerms(), nestedTerms()[:60]...)
	for what, sig := range formSigs() {
		t.Run(what, func(t *testing.T) {
			for i, a := range terms {
				for k := i % 7; k < len(terms); k += 7 {
					if b := terms[k]; impl.Greater(sig, a, b) != isGreater(sig, a, b) {
						t.Errorf("Greater(%v, %v) is not %v", a, b, isGreater(sig, a, b))
					}
				}
				b := terms[(i*31+7)%len(terms)]
				switch {
				case isGreater(sig, a, b):
					checkAbove(t, sig, a, b)
				case isGreater(sig, b, a):
					checkAbove(t, sig, b, a)
				default:
					checkNeither(t, sig, a, b)
				}
			}
		})
	}
}

func TestGreaterThanOneBetween(t *testing.T) {
	s := orderSig()
	var few []impl.Term
	for i, x := range orderTerms() {
		if i%3 != 1 {
			few = append(few, x)
		}
	}
	for _, a := range few {
		for _, b := range few {
			if !impl.Greater(s, a, b) {
				continue
			}
			for _, c := range few {
				if impl.Greater(s, b, c) && !impl.Greater(s, a, c) {
					t.Errorf("%v is greater than %v, that than %v, the first not than the last", a, b, c)
				}
			}
		}
	}
}

// somePut are what is put for X0 and X1: terms with and without variables, blind ones that join what they stand in, one for both, and one for the other.
func somePut() []map[int]impl.Term {
	a, b := fn(1), fn(2)
	return []map[int]impl.Term{
		{0: a},
		{1: b},
		{0: b, 1: a},
		{0: fn(0), 1: fn(0)},
		{0: vr(1)},
		{1: vr(0)},
		{0: vr(1), 1: vr(0)},
		{0: vr(99), 1: fn(3, vr(99))},
		{0: fn(3, fn(3, a))},
		{0: fn(5, a, b), 1: fn(5, a, a, b)},
		{0: fn(5, vr(0), vr(1)), 1: fn(6, vr(0), a)},
		{0: fn(6, a, fn(5, a, b)), 1: fn(4, vr(1), vr(1))},
		{1: fn(5, vr(0), vr(0), vr(1))},
		{0: fn(7, vr(2), fn(5, a, vr(2)), b)},
		{0: deepTerm(3, 11, vr(1)), 1: deepTerm(3, 5, a)},
	}
}

func TestGreaterStaysSo(t *testing.T) {
	s, all := orderSig(), orderTerms()
	pairs := 0
	for _, a := range all {
		for _, b := range all {
			if !impl.Greater(s, a, b) || !hasVariable(a) {
				continue
			}
			pairs++
			for _, put := range somePut() {
				x, y := putFor(s, put, a), putFor(s, put, b)
				if !isOk(s, x) || !isOk(s, y) {
					t.Fatalf("%v of %v and %v is not right", put, a, b)
				}
				if !impl.Greater(s, x, y) || impl.Greater(s, y, x) {
					t.Errorf("%v is greater than %v, but not %v than %v", a, b, x, y)
				}
				if l, r, ok := impl.Oriented(s, y, x); !ok || !sameTerm(l, x) || !sameTerm(r, y) {
					t.Errorf("Oriented(%v, %v) is %v, %v, %v", y, x, l, r, ok)
				}
			}
		}
	}
	if pairs < 1000 {
		t.Errorf("only %d pairs were asked", pairs)
	}
}

func TestGreaterOfDeepTerms(t *testing.T) {
	const deep = 1 << 18
	x, y := deepTerm(3, deep, vr(3)), deepTerm(3, deep, fn(1))
	if impl.Greater(orderSig(), x, y) || impl.Greater(orderSig(), x, fn(1)) || impl.Greater(orderSig(), fn(1), y) {
		t.Error("a term of too many parts is greater, or less")
	}
	l, r, ok := impl.Oriented(orderSig(), x, y)
	if ok || !impl.TermSame(l, x) || !impl.TermSame(r, y) {
		t.Error("Oriented of deep terms")
	}
}

func TestGreaterOfTermWithoutEnd(t *testing.T) {
	for f := range 8 {
		x := loopedTerm(f)
		if impl.Greater(orderSig(), x, fn(1)) || impl.Greater(orderSig(), fn(1), x) || impl.Greater(orderSig(), x, x) {
			t.Errorf("a term of %d without end is greater, or less", f)
		}
	}
}
