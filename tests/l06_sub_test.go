package tests

import (
	"math"
	"testing"

	"loop.example/g00461/impl"
)

func TestSubOk(t *testing.T) {
	for what, u := range rightSubs() {
		t.Run(what, func(t *testing.T) { checkSubOk(t, orderSig(), u, true) })
	}
	for what, u := range wrongSubs() {
		t.Run(what, func(t *testing.T) { checkSubOk(t, orderSig(), u, false) })
	}
	for _, u := range oddSubs() {
		checkSubOk(t, orderSig(), u, false)
	}
}

// TestSubOkOfWrongFunctions: nothing put is right at any functions, as there is no T that could be wrong.
func TestSubOkOfWrongFunctions(t *testing.T) {
	sigs := wrongSigs()
	sigs["odd blind"] = oddBlind()
	for what, sig := range sigs {
		t.Run(what, func(t *testing.T) {
			checkSubOk(t, sig, nil, true)
			checkSubOk(t, sig, []impl.Bind{}, true)
			checkSubOk(t, sig, puts(fn(0)), false)
			checkSubOk(t, sig, puts(vr(1)), false)
			checkSubOk(t, sig, bound(one(99, fn(1)), one(100, fn(1))), false)
		})
	}
}

func TestSubOkOfAll(t *testing.T) {
	for what, sig := range formSigs() {
		t.Run(what, func(t *testing.T) {
			for _, u := range allSubs() {
				checkSubOk(t, sig, u, isSubOk(sig, u))
			}
			for i, x := range formTerms() {
				for _, u := range [][]impl.Bind{bound(one(i%3, x)), bound(one(0, fn(1)), one(7, x)), bound(one(i%3, x), one(98, fn(2)))} {
					if got := impl.SubOk(sig, u); got != isSubOk(sig, u) {
						t.Errorf("SubOk(%v) is %v", u, got)
					}
				}
			}
		})
	}
}

// TestSubOkOfTermWithoutEnd: a term that holds itself is not TermOk, and no more is asked of it.
func TestSubOkOfTermWithoutEnd(t *testing.T) {
	for f := range 8 {
		if impl.SubOk(orderSig(), puts(loopedTerm(f))) || impl.SubOk(orderSig(), puts(fn(1), loopedTerm(f))) {
			t.Errorf("a term of %d without end is right", f)
		}
	}
}

func TestLook(t *testing.T) {
	a, b := fn(1), fn(2)
	u := bound(one(0, fn(5, vr(7), b)), one(2, a), one(99, fn(3, vr(2))))
	checkLook(t, u, 0, fn(5, vr(7), b))
	checkLook(t, u, 2, a)
	checkLook(t, u, 99, fn(3, vr(2)))
	for _, v := range []int{math.MinInt, -1, 1, 3, 7, 98, 100, math.MaxInt} {
		checkLook(t, u, v, vr(v))
		checkLook(t, nil, v, vr(v))
		checkLook(t, []impl.Bind{}, v, vr(v))
		checkLook(t, bound(one(v, fn(3, a))), v, fn(3, a))
	}
	checkLook(t, bound(one(3, a), one(3, b)), 3, a)
	checkLook(t, bound(one(3, vr(3)), one(3, b)), 3, vr(3))
	checkLook(t, bound(one(9, b), one(3, fn(3, a)), one(1, b), one(3, b)), 3, fn(3, a))
	checkLook(t, bound(one(9, b), one(3, a), one(1, fn(3, b))), 1, fn(3, b))
}

// TestLookLeavesTermsAsTheyAre: what is put is told as it is, not in one form, and its variables are not looked for.
func TestLookLeavesTermsAsTheyAre(t *testing.T) {
	for _, x := range append(formTerms(), fn(5, fn(2), fn(5, fn(1), vr(1)))) {
		checkLook(t, puts(x, fn(1)), 0, x)
	}
	for _, u := range allSubs() {
		for _, v := range []int{-1, 0, 1, 2, 3, 5, 9, 50, 98, 99, 100, math.MaxInt, math.MinInt} {
			checkLook(t, u, v, found(u, v))
		}
	}
}

func TestApply(t *testing.T) {
	s, a, b := orderSig(), fn(1), fn(2)
	x, y := vr(0), vr(1)
	cases := map[string]struct {
		u    []impl.Bind
		t    impl.Term
		want impl.Term
	}{
		"nothing is put":               {nil, fn(3, x), fn(3, x)},
		"a variable":                   {puts(fn(3, a)), x, fn(3, a)},
		"another variable":             {puts(fn(3, a)), y, y},
		"a constant":                   {puts(fn(3, a)), b, b},
		"tt, V 0":                      {puts(a), fn(0), fn(0)},
		"everywhere":                   {puts(a), fn(7, x, fn(3, x), fn(4, y, x)), fn(7, a, fn(3, a), fn(4, y, a))},
		"two":                          {puts(a, fn(3, b)), fn(4, y, x), fn(4, fn(3, b), a)},
		"0, MaxVar":                    {bound(one(0, a), one(99, b)), fn(4, x, vr(99)), fn(4, a, b)},
		"each for the other":           {puts(y, x), fn(4, x, y), fn(4, y, x)},
		"in a round":                   {puts(vr(1), vr(2), vr(0)), fn(7, vr(0), vr(1), vr(2)), fn(7, vr(1), vr(2), vr(0))},
		"itself within":                {puts(fn(3, x)), fn(4, x, x), fn(4, fn(3, x), fn(3, x))},
		"not again in what is put":     {puts(fn(4, y, x), b), fn(3, x), fn(3, fn(4, y, x))},
		"not again, 1 ahead":           {puts(a, fn(3, x)), fn(4, y, x), fn(4, fn(3, x), a)},
		"the first of two":             {bound(one(0, a), one(0, b)), fn(4, x, x), fn(4, a, a)},
		"not in order":                 {bound(one(1, a), one(0, b)), fn(4, x, y), fn(4, b, a)},
		"ordered anew":                 {puts(b), fn(5, x, a), fn(5, a, b)},
		"ordered anew around":          {puts(fn(3, b)), fn(5, fn(3, x), fn(3, fn(0))), fn(5, fn(3, fn(0)), fn(3, fn(3, b)))},
		"blind in the same":            {puts(fn(5, b, vr(7))), fn(5, x, a), fn(5, vr(7), a, b)},
		"blind in the same, twice":     {puts(fn(5, a, b)), fn(5, x, x), fn(5, a, a, b, b)},
		"blind in the same, both":      {puts(fn(5, a, b), fn(5, a, vr(7))), fn(5, x, y, b), fn(5, vr(7), a, a, b, b)},
		"blind in another":             {puts(fn(5, b, vr(7))), fn(6, x, a), fn(6, a, fn(5, vr(7), b))},
		"blind in the same in another": {puts(fn(5, a, b)), fn(6, a, fn(5, x, b)), fn(6, a, fn(5, a, b, b))},
		"blind in what is not":         {puts(fn(5, a, b)), fn(4, x, x), fn(4, fn(5, a, b), fn(5, a, b))},
		"what is put is in no form":    {puts(fn(5, b, a)), fn(3, x), fn(3, fn(5, a, b))},
		"what is put alone":            {puts(fn(5, fn(5, b, y), a)), x, fn(5, y, a, b)},
		"the term is in no form":       {puts(a), fn(5, b, fn(5, x, fn(0))), fn(5, fn(0), a, b)},
		"in no form, nothing put":      {nil, fn(5, b, fn(5, a, x)), fn(5, x, a, b)},
		"in no form, another put":      {bound(one(9, a)), fn(3, fn(5, b, x)), fn(3, fn(5, x, b))},
		"blind of one in the same":     {puts(fn(5, b)), fn(5, x, a), fn(5, a, b)},
		"blind of none in the same":    {puts(fn(5)), fn(5, x, a), fn(5, a)},
		"a variable with Kids":         {puts(a, b), fn(-1, fn(2)), fn(-1, fn(2))},
		"with Kids that are put":       {puts(a, b), fn(-1, x, y), fn(-1, a, b)},
		"with Kids within":             {puts(a, b), fn(4, fn(-1, fn(3, x)), x), fn(4, fn(-1, fn(3, a)), a)},
		"with Kids and another V":      {puts(a, b), withV(fn(-1, x), 1), withV(fn(-1, a), 1)},
		"put with Kids":                {puts(fn(-1, x)), fn(3, x), fn(3, fn(-1, x))},
		"a function with a V":          {bound(one(7, a)), withV(fn(2), 7), withV(fn(2), 7)},
		"a V of -1":                    {bound(one(-1, a)), fn(4, vr(-1), fn(0)), fn(4, a, fn(0))},
		"a V of 100":                   {bound(one(100, a)), fn(4, vr(100), vr(99)), fn(4, a, vr(99))},
		"F -2 is no variable":          {puts(a), fn(4, fn(-2), x), fn(4, fn(-2), a)},
	}
	for what, c := range cases {
		t.Run(what, func(t *testing.T) {
			if want := isApplied(s, c.u, c.t); !sameTerm(want, c.want) {
				t.Fatalf("the document's sentence tells %v, not %v", want, c.want)
			}
			checkApply(t, s, c.u, c.t, c.want)
		})
	}
}

// TestApplyMoreThanMaxParts: what becomes too large for TermOk is told all the same.
func TestApplyMoreThanMaxParts(t *testing.T) {
	got := impl.Apply(orderSig(), puts(partsOf(60)), fn(5, vr(0), vr(0)))
	if !sameTerm(got, fn(5, partsOf(60), partsOf(60))) {
		t.Errorf("Apply is %v", got)
	}
}

func TestApplyOfAll(t *testing.T) {
	subs, terms := allSubs(), formTerms()
	for what, sig := range formSigs() {
		t.Run(what, func(t *testing.T) {
			for i, u := range subs {
				for k := i % 29; k < len(terms); k += 29 {
					if got, want := impl.Apply(sig, u, terms[k]), isApplied(sig, u, terms[k]); !sameTerm(got, want) {
						t.Errorf("Apply(%v, %v) is %v, not %v", u, terms[k], got, want)
					}
				}
				for k := i % 211; k < len(terms); k += 211 {
					checkApply(t, sig, u, terms[k], isApplied(sig, u, terms[k]))
				}
			}
		})
	}
	for what, sig := range wrongSigs() {
		t.Run(what, func(t *testing.T) {
			for i, u := range oddSubs() {
				for k := i; k < len(terms); k += 97 {
					checkApply(t, sig, u, terms[k], isApplied(sig, u, terms[k]))
				}
			}
		})
	}
}

func TestApplyOfDeepTerms(t *testing.T) {
	const deep = 1 << 18
	x := deepTerm(3, deep, vr(3))
	put := bound(one(3, deepTerm(3, deep, fn(5, fn(2), vr(3)))))
	got := impl.Apply(orderSig(), put, x)
	if !impl.TermSame(got, deepTerm(3, 2*deep, fn(5, vr(3), fn(2)))) {
		t.Error("Apply of deep terms")
	}
	if !impl.TermSame(impl.Look(put, 3), put[0].T) {
		t.Error("Look of a deep term")
	}
	added := impl.SubAdd(orderSig(), bound(one(4, x)), 3, put[0].T)
	if len(added) != 2 || added[0].V != 3 || added[1].V != 4 || !impl.TermSame(added[0].T, put[0].T) || !impl.TermSame(added[1].T, got) {
		t.Error("SubAdd of deep terms")
	}
	if impl.SubOk(orderSig(), put) {
		t.Error("SubOk of a deep term")
	}
}

func TestSubAdd(t *testing.T) {
	s, a, b := orderSig(), fn(1), fn(2)
	x := func(v int) impl.Term { return fn(3, vr(v)) }
	cases := map[string]struct {
		u    []impl.Bind
		v    int
		t    impl.Term
		want []impl.Bind
	}{
		"to none":                  {nil, 3, a, bound(one(3, a))},
		"to none, a variable":      {nil, 3, vr(4), bound(one(3, vr(4)))},
		"ahead of all":             {bound(one(3, a), one(5, x(1))), 1, b, bound(one(1, b), one(3, a), one(5, fn(3, b)))},
		"behind all":               {bound(one(3, a), one(5, x(7))), 7, b, bound(one(3, a), one(5, fn(3, b)), one(7, b))},
		"between":                  {bound(one(3, x(4)), one(5, x(4))), 4, b, bound(one(3, fn(3, b)), one(4, b), one(5, fn(3, b)))},
		"0":                        {bound(one(3, a), one(99, x(0))), 0, b, bound(one(0, b), one(3, a), one(99, fn(3, b)))},
		"99":                       {bound(one(0, a), one(3, x(99))), 99, b, bound(one(0, a), one(3, fn(3, b)), one(99, b))},
		"-1":                       {bound(one(0, a), one(3, x(-1))), -1, b, bound(one(-1, b), one(0, a), one(3, fn(3, b)))},
		"100":                      {bound(one(0, x(100)), one(99, a)), 100, b, bound(one(0, fn(3, b)), one(99, a), one(100, b))},
		"the least":                {puts(a), math.MinInt, b, bound(one(math.MinInt, b), one(0, a))},
		"the greatest":             {puts(a), math.MaxInt, b, bound(one(0, a), one(math.MaxInt, b))},
		"that is there":            {bound(one(3, x(4)), one(4, a), one(5, x(4))), 4, b, bound(one(3, fn(3, b)), one(4, b), one(5, fn(3, b)))},
		"that is there, alone":     {bound(one(4, a)), 4, b, bound(one(4, b))},
		"that is there, first":     {bound(one(3, x(3)), one(5, x(3))), 3, b, bound(one(3, b), one(5, fn(3, b)))},
		"that is there, last":      {bound(one(3, x(5)), one(5, x(5))), 5, b, bound(one(3, fn(3, b)), one(5, b))},
		"the same again":           {bound(one(3, a), one(5, b)), 3, a, bound(one(3, a), one(5, b))},
		"not put for itself":       {bound(one(3, x(4))), 5, x(3), bound(one(3, x(4)), one(5, x(3)))},
		"itself within":            {bound(one(3, fn(4, vr(4), vr(4)))), 4, x(4), bound(one(3, fn(4, x(4), x(4))), one(4, x(4)))},
		"what is there, not put":   {bound(one(3, a)), 4, fn(4, vr(3), b), bound(one(3, a), one(4, fn(4, vr(3), b)))},
		"t as it is":               {bound(one(3, a)), 4, fn(5, b, fn(5, a, b)), bound(one(3, a), one(4, fn(5, b, fn(5, a, b))))},
		"t as it is, that is":      {bound(one(4, a)), 4, fn(5, b, a), bound(one(4, fn(5, b, a)))},
		"T in one form":            {bound(one(3, fn(5, b, fn(5, a, b)))), 4, a, bound(one(3, fn(5, a, b, b)), one(4, a))},
		"blind in the same":        {bound(one(3, fn(5, vr(4), b))), 4, fn(5, a, b), bound(one(3, fn(5, a, b, b)), one(4, fn(5, a, b)))},
		"a variable with Kids":     {bound(one(3, withV(fn(-1, vr(4)), 4))), 4, a, bound(one(3, withV(fn(-1, a), 4)), one(4, a))},
		"not in order, between":    {bound(one(5, x(4)), one(1, x(4)), one(7, a)), 4, b, bound(one(4, b), one(5, fn(3, b)), one(1, fn(3, b)), one(7, a))},
		"not in order, further on": {bound(one(2, a), one(1, b), one(7, a), one(3, b)), 4, b, bound(one(2, a), one(1, b), one(4, b), one(7, a), one(3, b))},
		"not in order, behind":     {bound(one(2, a), one(1, b)), 4, b, bound(one(2, a), one(1, b), one(4, b))},
		"not in order, there":      {bound(one(5, x(4)), one(4, a), one(1, x(4))), 4, b, bound(one(5, fn(3, b)), one(4, b), one(1, fn(3, b)))},
		"not in order, there last": {bound(one(7, x(4)), one(5, x(4)), one(4, a)), 4, b, bound(one(7, fn(3, b)), one(5, fn(3, b)), one(4, b))},
		"there twice":              {bound(one(4, a), one(4, x(4))), 4, b, bound(one(4, b), one(4, fn(3, b)))},
	}
	for what, c := range cases {
		t.Run(what, func(t *testing.T) {
			if want := isAdded(s, c.u, c.v, c.t); !sameBinds(want, c.want) {
				t.Fatalf("the document's sentence tells %v, not %v", want, c.want)
			}
			checkSubAdd(t, s, c.u, c.v, c.t, c.want)
		})
	}
}

func TestSubAddOfAll(t *testing.T) {
	subs, terms := allSubs(), formTerms()
	numbers := []int{-1, 0, 1, 2, 3, 4, 50, 98, 99, 100, math.MaxInt, math.MinInt}
	sigs := formSigs()
	sigs["order"] = orderSig()
	for what, sig := range sigs {
		t.Run(what, func(t *testing.T) {
			for i, u := range subs {
				for k, v := range numbers {
					x := terms[(i*37+k*101)%len(terms)]
					checkSubAdd(t, sig, u, v, x, isAdded(sig, u, v, x))
				}
			}
		})
	}
	for what, sig := range wrongSigs() {
		t.Run(what, func(t *testing.T) {
			for i, u := range oddSubs() {
				x := terms[(i*37)%len(terms)]
				checkSubAdd(t, sig, u, i%3, x, isAdded(sig, u, i%3, x))
			}
		})
	}
}

func TestSubText(t *testing.T) {
	s, a, b := orderSig(), fn(1), fn(2)
	checkSubText(t, s, nil, "")
	checkSubText(t, s, []impl.Bind{}, "")
	checkSubText(t, s, puts(a), "X0=a")
	checkSubText(t, s, bound(one(99, vr(3))), "X99=X3")
	checkSubText(t, s, puts(a, fn(4, a, b)), "X0=a;X1=h(a,b)")
	checkSubText(t, s, bound(one(0, fn(5, vr(7), b)), one(2, a), one(10, fn(0))), "X0=f(X7,b);X2=a;X10=tt")
	checkSubText(t, s, bound(one(3, b), one(1, fn(5, b, fn(5, a, vr(0)))), one(3, a)), "X3=b;X1=f(b,f(a,X0));X3=a")
	checkSubText(t, s, bound(one(-1, fn(9, a)), one(100, fn(-2))), "X-1=?(a);X100=?")
	checkSubText(t, nil, puts(a, vr(5)), "X0=?;X1=X5")
	checkSubText(t, s, bound(one(math.MinInt, a), one(math.MaxInt, vr(-7))), "X-9223372036854775808=a;X9223372036854775807=X-7")
	for _, sig := range formSigs() {
		for _, u := range allSubs() {
			checkSubText(t, sig, u, isSubText(sig, u))
		}
		for _, x := range formTerms() {
			checkSubText(t, sig, puts(x, fn(1)), isSubText(sig, puts(x, fn(1))))
		}
	}
}
