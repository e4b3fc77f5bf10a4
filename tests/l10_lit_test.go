package tests

import (
	"math"
	"slices"
	"strings"
	"testing"

	"loop.example/g00461/impl"
)

func TestLitMake(t *testing.T) {
	s, a, b := orderSig(), fn(1), fn(2)
	x, y := vr(0), vr(1)
	f := func(kids ...impl.Term) impl.Term { return fn(5, kids...) }
	cases := map[string]struct {
		a impl.Term
		b impl.Term
		l impl.Term
		r impl.Term
	}{
		"constants":                     {a, b, b, a},
		"tt":                            {a, fn(0), a, fn(0)},
		"variables":                     {x, y, y, x},
		"0 and MaxVar":                  {x, vr(99), vr(99), x},
		"a variable and a constant":     {x, fn(0), fn(0), x},
		"a variable and it within":      {x, fn(3, x), fn(3, x), x},
		"by the function, not weight":   {fn(3, fn(3, fn(3, a))), fn(4, a, a), fn(4, a, a), fn(3, fn(3, fn(3, a)))},
		"by how many Kids":              {f(b, b), f(a, a, a), f(a, a, a), f(b, b)},
		"by the first Kid that differs": {fn(7, a, b, a), fn(7, a, a, b), fn(7, a, b, a), fn(7, a, a, b)},
		"by a Kid deep within":          {fn(3, fn(4, b, fn(3, x))), fn(3, fn(4, b, fn(3, y))), fn(3, fn(4, b, fn(3, y))), fn(3, fn(4, b, fn(3, x)))},
		"alike":                         {a, a, a, a},
		"alike variables":               {x, x, x, x},
		"alike, with Kids":              {fn(4, x, f(a, b)), fn(4, x, f(a, b)), fn(4, x, f(a, b)), fn(4, x, f(a, b))},
		"alike in one form":             {f(b, a), f(a, b), f(a, b), f(a, b)},
		"alike in one form, neither is": {f(b, f(b, a)), f(f(a, b), b), f(a, b, b), f(a, b, b)},
		"alike in one form, within":     {fn(3, f(b, x)), fn(3, f(x, b)), fn(3, f(x, b)), fn(3, f(x, b))},
		"not in one form":               {a, f(b, f(b, a)), f(a, b, b), a},
		"turned by their form":          {f(b, fn(0)), f(a, a), f(a, a), f(fn(0), b)},
		"turned by how many there are":  {f(b, f(a, a)), f(b, b), f(a, a, b), f(b, b)},
		"no function":                   {fn(9, a), fn(-2, b), fn(9, a), fn(-2, b)},
		"a variable with Kids":          {fn(-1, f(b, a)), x, fn(-1, f(a, b)), x},
		"a V at a function":             {withV(a, 4), a, withV(a, 4), a},
		"variables that are none":       {vr(-1), vr(100), vr(100), vr(-1)},
		"the least, the greatest":       {fn(math.MaxInt), fn(math.MinInt), fn(math.MaxInt), fn(math.MinInt)},
		"too few Kids, too many":        {fn(3), fn(3, b, a), fn(3, b, a), fn(3)},
		"blind of none, of one":         {f(), f(b), f(b), f()},
		"blind of one in the same":      {f(f(b)), f(a), f(b), f(a)},
		"61 parts":                      {partsOf(61), partsOf(60), partsOf(61), partsOf(60)},
		"61 parts, blind":               {f(make([]impl.Term, 60)...), f(b, a), f(make([]impl.Term, 60)...), f(a, b)},
	}
	for what, c := range cases {
		t.Run(what, func(t *testing.T) {
			if want := isMade(s, true, c.a, c.b); !sameLit(want, lit(true, c.l, c.r)) {
				t.Fatalf("the document's sentence tells %v, not %v", want, c)
			}
			checkOneLit(t, s, c.a, c.b, c.l, c.r)
		})
	}
}

func TestLitMakeOfAll(t *testing.T) {
	sigs := formSigs()
	sigs["order"] = orderSig()
	for what, sig := range sigs {
		t.Run(what, func(t *testing.T) {
			bs := litTerms(5, 61)
			for i, a := range litTerms(3, 37) {
				for k := i % 5; k < len(bs); k += 5 {
					want := isMade(sig, i%2 == 0, a, bs[k])
					if got := impl.LitMake(sig, i%2 == 0, a, bs[k]); !sameLit(got, want) {
						t.Errorf("LitMake(%v, %v) is %v, not %v", a, bs[k], got, want)
					}
				}
				b := bs[i%len(bs)]
				want := isMade(sig, true, a, b)
				checkOneLit(t, sig, a, b, want.L, want.R)
			}
		})
	}
	for what, sig := range wrongSigs() {
		t.Run(what, func(t *testing.T) {
			bs := litTerms(1, 331)
			for i, a := range litTerms(2, 499) {
				want := isMade(sig, true, a, bs[i%len(bs)])
				checkOneLit(t, sig, a, bs[i%len(bs)], want.L, want.R)
			}
		})
	}
}

// TestLitMakeOfOneMemory: where both sides are the same lists, or one stands within the other, the answer's are not.
func TestLitMakeOfOneMemory(t *testing.T) {
	s := orderSig()
	for _, term := range litTerms(0, 41) {
		x := roomyTerm(term)
		for _, y := range []impl.Term{x, fn(3, x), fn(5, x, x), fn(5, fn(2), x)} {
			checkLitAnswer(t, "LitMake", impl.LitMake(s, true, x, y), isMade(s, true, term, y))
			checkTermRoom(t, "LitMake, its answer written over", x, term)
			l := lit(true, vr(0), y)
			checkLitAnswer(t, "LitApply", impl.LitApply(s, puts(x), l), isLitApplied(s, puts(term), l))
			checkTermRoom(t, "LitApply, its answer written over", x, term)
		}
	}
}

func TestLitOk(t *testing.T) {
	s, a, b := orderSig(), fn(1), fn(2)
	x, y := vr(0), vr(1)
	unlikeOnes := [][2]impl.Term{
		{b, a},
		{a, fn(0)},
		{y, x},
		{vr(99), x},
		{fn(0), vr(99)},
		{fn(3, x), x},
		{fn(4, a, a), fn(3, fn(3, fn(3, a)))},
		{fn(5, a, a, a), fn(5, b, b)},
		{fn(5, a, a), fn(5, fn(0), b)},
		{fn(3, fn(5, x, b)), fn(3, fn(5, x, a))},
		{partsOf(60), a},
		{fn(4, a, a), partsOf(60)},
		{fn(5, make([]impl.Term, 59)...), partsOf(60)},
	}
	for _, p := range unlikeOnes {
		checkLitOk(t, s, p[0], p[1], true)
		checkLitOk(t, s, p[1], p[0], false)
		checkLitOk(t, s, p[0], p[0], true)
		checkLitOk(t, s, p[1], p[1], true)
	}
}

func TestLitOkOfWrongSides(t *testing.T) {
	s := orderSig()
	others := []impl.Term{vr(0), vr(99), fn(0), fn(2), fn(3, fn(1)), fn(5, fn(1), fn(2)), fn(7, fn(1), fn(1), fn(1)), partsOf(60)}
	for what, wrong := range wrongTerms() {
		t.Run(what, func(t *testing.T) {
			for _, x := range others {
				checkLitOk(t, s, wrong, x, false)
				checkLitOk(t, s, x, wrong, false)
			}
			for _, x := range wrongTerms() {
				checkLitOk(t, s, wrong, x, false)
			}
		})
	}
	sigs := wrongSigs()
	sigs["odd blind"] = oddBlind()
	for what, sig := range sigs {
		t.Run(what, func(t *testing.T) {
			for _, p := range [][2]impl.Term{{fn(0), fn(0)}, {fn(1), fn(0)}, {vr(1), vr(0)}, {vr(0), vr(0)}, {fn(0), vr(0)}} {
				checkLitOk(t, sig, p[0], p[1], false)
			}
		})
	}
}

func TestLitOkOfAll(t *testing.T) {
	right := 0
	sigs := formSigs()
	sigs["order"] = orderSig()
	for what, sig := range sigs {
		t.Run(what, func(t *testing.T) {
			for _, l := range someLits() {
				checkLitOk(t, sig, l.L, l.R, isLitOk(sig, l))
			}
			rs := append(orderTerms()[:20], litTerms(5, 97)...)
			for i, l := range append(orderTerms(), litTerms(4, 31)...) {
				for k := i % 3; k < len(rs); k += 3 {
					want := isLitOk(sig, lit(true, l, rs[k]))
					if got := impl.LitOk(sig, lit(i%2 == 0, l, rs[k])); got != want {
						t.Errorf("LitOk(%v, %v) is %v", l, rs[k], got)
					}
					if want {
						right++
					}
				}
			}
		})
	}
	if right < 1000 {
		t.Errorf("only %d are right", right)
	}
}

// litsInTurn are lists of Lits of one sign in which each is ahead of all that follow.
func litsInTurn(pos bool) map[string][]impl.Lit {
	a, b := fn(1), fn(2)
	of := func(l impl.Term, r impl.Term) impl.Lit { return lit(pos, l, r) }
	f := func(kids ...impl.Term) impl.Term { return fn(5, kids...) }
	return map[string][]impl.Lit{
		"L alone":             {of(vr(0), a), of(vr(1), a), of(fn(0), a), of(a, a), of(b, a), of(fn(3, a), a), of(fn(3, b), a), of(fn(3, a, a), a)},
		"R alone":             {of(b, vr(0)), of(b, vr(1)), of(b, fn(0)), of(b, a), of(b, b), of(b, fn(3, a)), of(b, fn(3, b)), of(b, fn(3, a, a))},
		"L ahead of R":        {of(a, b), of(b, a), of(b, b), of(fn(3, a), vr(0)), of(fn(3, a), fn(9)), of(fn(3, b), fn(0))},
		"either way round":    {of(a, b), of(b, a)},
		"variables, too":      {of(vr(0), vr(1)), of(vr(1), vr(0))},
		"Kids deep, L":        {of(fn(3, fn(4, a, fn(3, vr(0)))), b), of(fn(3, fn(4, a, fn(3, vr(1)))), a), of(fn(3, fn(4, a, fn(3, a))), vr(0)), of(fn(3, fn(4, a, fn(3, a, a))), vr(0))},
		"Kids deep, R":        {of(b, fn(3, fn(4, a, fn(3, vr(0))))), of(b, fn(3, fn(4, a, fn(3, vr(1))))), of(b, fn(3, fn(4, a, fn(3, a)))), of(b, fn(3, fn(4, a, fn(3, a, a))))},
		"the last Kid":        {of(fn(7, a, b, a), fn(7, a, b, vr(7))), of(fn(7, a, b, a), fn(7, a, b, a)), of(fn(7, a, b, b), fn(7, a, b, vr(7))), of(fn(7, a, b, b), fn(7, a, b, b))},
		"V of a variable":     {of(vr(math.MinInt), a), of(vr(-1), a), of(vr(0), a), of(vr(99), a), of(vr(100), a), of(vr(math.MaxInt), a)},
		"V of a function":     {of(withV(a, -1), a), of(a, withV(a, -1)), of(a, a), of(a, withV(a, 1)), of(withV(a, 1), a)},
		"F that is none":      {of(fn(math.MinInt), a), of(fn(-2), a), of(a, fn(-2)), of(a, fn(9)), of(fn(9), a), of(fn(math.MaxInt), a)},
		"a variable's Kids":   {of(vr(0), a), of(fn(-1, a), a), of(fn(-1, b), a), of(fn(-1, a, a), a)},
		"alike in one form":   {of(f(a, b), a), of(f(b, a), a), of(f(b, f(a, b)), a), of(f(a, b, b), a)},
		"alike in form, in R": {of(a, f(a, b)), of(a, f(b, a)), of(a, f(b, f(a, b))), of(a, f(a, b, b))},
	}
}

func TestLitsInTurn(t *testing.T) {
	for _, pos := range []bool{false, true} {
		for what, list := range litsInTurn(pos) {
			t.Run(what, func(t *testing.T) { checkLitsInTurn(t, list) })
		}
	}
}

// TestLitsOfBothSigns: one that does not hold is ahead, whatever its sides are.
func TestLitsOfBothSigns(t *testing.T) {
	for what, list := range litsInTurn(true) {
		t.Run(what, func(t *testing.T) {
			not := litsInTurn(false)[what]
			checkLitsInTurn(t, append(slices.Clone(not), list...))
			for i, l := range list {
				checkLits(t, not[i], l, false, true)
				checkLits(t, l, not[i], false, false)
			}
		})
	}
}

func TestLitsNilAndNone(t *testing.T) {
	none := func(x impl.Term) impl.Term { return impl.Term{F: x.F, V: x.V, Kids: []impl.Term{}} }
	for _, x := range smallTerms() {
		for _, pos := range []bool{false, true} {
			plainLit := lit(pos, x, fn(3, x))
			checkLits(t, plainLit, lit(pos, none(x), fn(3, x)), true, false)
			checkLits(t, lit(pos, none(x), fn(3, none(x))), plainLit, true, false)
			checkLits(t, lit(pos, fn(3, x), x), lit(pos, fn(3, none(x)), none(x)), true, false)
		}
	}
	checkLits(t, impl.Lit{}, lit(false, fn(0), fn(0)), true, false)
}

func TestLitsOfAll(t *testing.T) {
	lits := someLits()
	for i, l := range litTerms(6, 61) {
		for k, r := range litTerms(i, 499) {
			lits = append(lits, lit((i+k)%2 == 0, l, r))
		}
	}
	for i, a := range lits {
		checkLits(t, a, a, true, false)
		if !impl.LitSame(a, a) || impl.LitBefore(a, a) {
			t.Errorf("%v is not the same as itself, or ahead of it", a)
		}
		for k := i % 7; k < len(lits); k += 7 {
			b := lits[k]
			if got := impl.LitSame(a, b); got != sameLit(a, b) {
				t.Errorf("LitSame(%v, %v) is %v", a, b, got)
			}
			if got := impl.LitBefore(a, b); got != isLitBefore(a, b) {
				t.Errorf("LitBefore(%v, %v) is %v", a, b, got)
			}
		}
		b := lits[(i*31+7)%len(lits)]
		checkLits(t, a, b, sameLit(a, b), isLitBefore(a, b))
	}
}

func TestLitApply(t *testing.T) {
	s, a, b := orderSig(), fn(1), fn(2)
	x, y := vr(0), vr(1)
	f := func(kids ...impl.Term) impl.Term { return fn(5, kids...) }
	g := func(kid impl.Term) impl.Term { return fn(3, kid) }
	cases := map[string]struct {
		u []impl.Bind
		a impl.Term
		b impl.Term
		l impl.Term
		r impl.Term
	}{
		"nothing is put":            {nil, b, x, b, x},
		"another variable":          {bound(one(7, a)), b, x, b, x},
		"in both":                   {puts(a), g(x), fn(0), g(a), fn(0)},
		"in both sides":             {puts(a), fn(4, x, y), g(x), fn(4, a, y), g(a)},
		"not turned":                {puts(a), b, x, b, a},
		"turned":                    {puts(g(a)), b, x, g(a), b},
		"turned, both put":          {puts(b, a), y, x, b, a},
		"turned deep within":        {puts(b), fn(3, fn(4, a, y)), fn(3, fn(4, x, x)), fn(3, fn(4, b, b)), fn(3, fn(4, a, y))},
		"turned by a blind one":     {puts(f(a, a)), f(b, b), f(x, b), f(a, a, b), f(b, b)},
		"turned back and forth":     {puts(y, x), y, x, y, x},
		"alike":                     {puts(b), b, x, b, b},
		"alike variables":           {puts(vr(7), vr(7)), y, x, vr(7), vr(7)},
		"alike, with Kids":          {puts(a, f(a, b)), fn(4, y, g(x)), fn(4, f(x, b), g(a)), fn(4, f(a, b), g(a)), fn(4, f(a, b), g(a))},
		"alike in one form":         {puts(b, a), f(x, a), f(y, b), f(a, b), f(a, b)},
		"joined":                    {puts(f(b, vr(7))), f(x, a), x, f(vr(7), a, b), f(vr(7), b)},
		"L was Before R":            {nil, a, b, b, a},
		"L was Before R, put":       {puts(b), x, a, b, a},
		"in no form":                {puts(a), f(b, f(x, b)), f(b, x), f(a, b, b), f(a, b)},
		"in no form, nothing put":   {nil, f(b, a), x, f(a, b), x},
		"no SubOk, in a round":      {puts(y, x), fn(4, x, y), g(x), fn(4, y, x), g(y)},
		"no SubOk, itself within":   {puts(g(x)), b, x, g(x), b},
		"no SubOk, twice":           {bound(one(0, fn(0)), one(0, g(a))), b, x, b, fn(0)},
		"no SubOk, not in order":    {bound(one(1, a), one(0, b)), fn(4, x, y), g(y), fn(4, b, a), g(a)},
		"no SubOk, no TermOk":       {puts(fn(9, f(b, a))), b, x, fn(9, f(a, b)), b},
		"no SubOk, blind of none":   {puts(f()), f(x, a), b, f(a), b},
		"no SubOk, V that are none": {bound(one(-1, a), one(100, g(b))), vr(100), vr(-1), g(b), a},
		"a side is no TermOk":       {puts(b), fn(9, x), fn(-1, x), fn(9, b), fn(-1, b)},
		"too large by what is put":  {puts(partsOf(60)), g(x), b, partsOf(61), b},
	}
	for what, c := range cases {
		for _, pos := range []bool{false, true} {
			t.Run(what, func(t *testing.T) {
				l, want := lit(pos, c.a, c.b), lit(pos, c.l, c.r)
				if told := isLitApplied(s, c.u, l); !sameLit(told, want) {
					t.Fatalf("the document's sentence tells %v, not %v", told, want)
				}
				checkLitApply(t, s, c.u, l, want)
				checkLitApply(t, s, c.u, lit(pos, c.b, c.a), want)
			})
		}
	}
}

func TestLitApplyOfAll(t *testing.T) {
	subs, lits, terms := allSubs(), someLits(), litTerms(7, 53)
	sigs := formSigs()
	sigs["order"] = orderSig()
	for what, sig := range sigs {
		t.Run(what, func(t *testing.T) {
			for i, u := range subs {
				for k := i % 19; k < len(lits); k += 19 {
					checkLitApply(t, sig, u, lits[k], isLitApplied(sig, u, lits[k]))
				}
				for k, x := range terms {
					l := lit(k%2 == 0, x, terms[(i+k*7)%len(terms)])
					if got, want := impl.LitApply(sig, u, l), isLitApplied(sig, u, l); !sameLit(got, want) {
						t.Errorf("LitApply(%v, %v) is %v, not %v", u, l, got, want)
					}
				}
			}
		})
	}
	for what, sig := range wrongSigs() {
		t.Run(what, func(t *testing.T) {
			for i, u := range oddSubs() {
				l := lits[(i*37)%len(lits)]
				checkLitApply(t, sig, u, l, isLitApplied(sig, u, l))
			}
		})
	}
}

func TestLitText(t *testing.T) {
	s, a, b := orderSig(), fn(1), fn(2)
	checkLitText(t, s, lit(true, b, a), "b = a")
	checkLitText(t, s, lit(false, b, a), "b != a")
	checkLitText(t, s, lit(true, a, b), "a = b")
	checkLitText(t, s, lit(false, vr(0), vr(99)), "X0 != X99")
	checkLitText(t, s, lit(true, fn(0), fn(0)), "tt = tt")
	checkLitText(t, s, impl.Lit{}, "tt != tt")
	checkLitText(t, s, lit(true, fn(5, vr(7), fn(4, a, b)), fn(3, a)), "f(X7,h(a,b)) = g(a)")
	checkLitText(t, s, lit(false, fn(5, b, fn(5, b, a)), fn(5, b)), "f(b,f(b,a)) != f(b)")
	checkLitText(t, s, lit(true, fn(8, a), fn(-2)), "?(a) = ?")
	checkLitText(t, s, lit(false, fn(3, fn(9)), fn(math.MaxInt, vr(1), b)), "g(?) != ?(X1,b)")
	checkLitText(t, s, lit(true, vr(-1), fn(-1, a)), "X-1 = X0")
	checkLitText(t, nil, lit(true, fn(0), vr(100)), "? = X100")
	checkLitText(t, s[:1], lit(false, a, fn(0)), "? != tt")
	checkLitText(t, []impl.Sym{plain(" = ", 1), plain("", 0)}, lit(false, fn(0, fn(1)), fn(1)), " = () != ")
	for what, sig := range allSigs() {
		t.Run(what, func(t *testing.T) {
			for i, l := range someLits() {
				if i%11 == 0 {
					checkLitText(t, sig, l, isLitText(sig, l))
				}
			}
		})
	}
	for i, x := range formTerms() {
		if i%7 == 0 {
			checkLitText(t, s, lit(i%2 == 0, x, b), isLitText(s, lit(i%2 == 0, x, b)))
			checkLitText(t, s, lit(i%2 == 0, a, x), isLitText(s, lit(i%2 == 0, a, x)))
		}
	}
}

func TestLitsOfDeepTerms(t *testing.T) {
	const deep = 1 << 18
	s, b := orderSig(), fn(2)
	x, y := deepTerm(3, deep, vr(3)), deepTerm(3, deep, vr(4))
	for _, l := range []impl.Lit{impl.LitMake(s, true, x, y), impl.LitMake(s, true, y, x)} {
		if !l.Pos || !impl.TermSame(l.L, y) || !impl.TermSame(l.R, x) {
			t.Error("LitMake of deep terms")
		}
	}
	l, m := lit(true, b, x), lit(true, b, y)
	if !impl.LitSame(l, l) || impl.LitSame(l, m) || !impl.LitBefore(l, m) || impl.LitBefore(m, l) || impl.LitBefore(l, l) {
		t.Error("LitSame or LitBefore of deep terms")
	}
	if impl.LitOk(s, lit(true, y, x)) || impl.LitOk(s, l) || impl.LitOk(s, lit(true, y, b)) {
		t.Error("LitOk of deep terms")
	}
	put := impl.LitApply(s, bound(one(3, b), one(4, fn(1))), lit(false, y, x))
	if put.Pos || !impl.TermSame(put.L, deepTerm(3, deep, b)) || !impl.TermSame(put.R, deepTerm(3, deep, fn(1))) {
		t.Error("LitApply of deep terms")
	}
	text := strings.Repeat("g(", deep) + "X3" + strings.Repeat(")", deep)
	if impl.LitText(s, lit(false, x, x)) != text+" != "+text {
		t.Error("LitText of deep terms")
	}
}

// TestLitOkOfTermWithoutEnd: a term that holds itself is not TermOk, and no more is asked of it.
func TestLitOkOfTermWithoutEnd(t *testing.T) {
	for f := range 8 {
		x := loopedTerm(f)
		if impl.LitOk(orderSig(), lit(true, x, fn(1))) || impl.LitOk(orderSig(), lit(false, fn(1), x)) || impl.LitOk(orderSig(), lit(true, x, x)) {
			t.Errorf("a side of %d without end is right", f)
		}
	}
}
