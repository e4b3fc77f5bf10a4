package tests

import (
	"maps"
	"math"
	"slices"
	"strings"
	"testing"

	"loop.example/g00461/impl"
)

// is and not are Lits as they are given, whichever side is first.
func is(l impl.Term, r impl.Term) impl.Lit  { return lit(true, l, r) }
func not(l impl.Term, r impl.Term) impl.Lit { return lit(false, l, r) }

func TestClauseMake(t *testing.T) {
	s, a, b, x, y := orderSig(), fn(1), fn(2), vr(0), vr(1)
	f := func(kids ...impl.Term) impl.Term { return fn(5, kids...) }
	g := func(kid impl.Term) impl.Term { return fn(3, kid) }
	cases := map[string]struct {
		list []impl.Lit
		want []impl.Lit
	}{
		"nil":                        {nil, nil},
		"none":                       {[]impl.Lit{}, nil},
		"one":                        {[]impl.Lit{is(b, a)}, []impl.Lit{is(b, a)}},
		"one, L Before R":            {[]impl.Lit{not(a, b)}, []impl.Lit{not(b, a)}},
		"one, alike sides":           {[]impl.Lit{is(x, x)}, []impl.Lit{is(x, x)}},
		"in order":                   {[]impl.Lit{not(b, a), is(b, a)}, []impl.Lit{not(b, a), is(b, a)}},
		"by sign":                    {[]impl.Lit{is(a, x), not(g(b), a)}, []impl.Lit{not(g(b), a), is(a, x)}},
		"by L":                       {[]impl.Lit{is(g(b), x), is(b, a), is(g(a), b)}, []impl.Lit{is(b, a), is(g(a), b), is(g(b), x)}},
		"by R":                       {[]impl.Lit{not(g(b), b), not(g(b), y), not(g(b), x)}, []impl.Lit{not(g(b), x), not(g(b), y), not(g(b), b)}},
		"by L, turned ahead":         {[]impl.Lit{is(x, g(b)), is(b, a), is(b, g(a))}, []impl.Lit{is(b, a), is(g(a), b), is(g(b), x)}},
		"twice":                      {[]impl.Lit{is(b, a), is(b, a)}, []impl.Lit{is(b, a)}},
		"three times":                {[]impl.Lit{is(b, a), is(b, a), is(b, a)}, []impl.Lit{is(b, a)}},
		"twice, one between":         {[]impl.Lit{is(b, a), not(b, x), is(b, a)}, []impl.Lit{not(b, x), is(b, a)}},
		"twice each":                 {[]impl.Lit{is(b, a), is(g(x), x), is(b, a), is(g(x), x)}, []impl.Lit{is(b, a), is(g(x), x)}},
		"twice, the last one":        {[]impl.Lit{not(b, x), is(g(x), x), is(g(x), x)}, []impl.Lit{not(b, x), is(g(x), x)}},
		"twice, either way round":    {[]impl.Lit{is(b, a), is(a, b)}, []impl.Lit{is(b, a)}},
		"twice in one form":          {[]impl.Lit{not(f(a, b), x), not(x, f(b, a))}, []impl.Lit{not(f(a, b), x)}},
		"twice, neither in one form": {[]impl.Lit{is(f(b, f(b, a)), x), is(f(f(a, b), b), x)}, []impl.Lit{is(f(a, b, b), x)}},
		"alike but for the sign":     {[]impl.Lit{is(b, a), not(b, a)}, []impl.Lit{not(b, a), is(b, a)}},
		"alike but for the sign, 2":  {[]impl.Lit{is(b, a), not(a, b), is(a, b), not(b, a)}, []impl.Lit{not(b, a), is(b, a)}},
		"alike but for a variable":   {[]impl.Lit{is(b, y), is(b, x), is(b, y)}, []impl.Lit{is(b, x), is(b, y)}},
		"alike but for a Kid":        {[]impl.Lit{is(f(a, a, b), x), is(f(a, b), x)}, []impl.Lit{is(f(a, b), x), is(f(a, a, b), x)}},
		"alike but deep within":      {[]impl.Lit{is(g(f(y, b)), a), is(g(f(x, b)), a)}, []impl.Lit{is(g(f(x, b)), a), is(g(f(y, b)), a)}},
		"no TermOk":                  {[]impl.Lit{is(fn(9, f(b, a)), b), is(b, fn(9, f(a, b))), not(vr(100), vr(-1))}, []impl.Lit{not(vr(100), vr(-1)), is(fn(9, f(a, b)), b)}},
		"a variable with Kids":       {[]impl.Lit{is(fn(-1, f(b, a)), x), is(x, fn(-1, f(a, b)))}, []impl.Lit{is(fn(-1, f(a, b)), x)}},
		"zero":                       {[]impl.Lit{{}, {}}, []impl.Lit{not(fn(0), fn(0))}},
		"zero ahead of others":       {[]impl.Lit{is(b, a), {}, is(b, a)}, []impl.Lit{not(fn(0), fn(0)), is(b, a)}},
		"MaxLits":                    {litsOf(8), litsOf(8)},
		"one more than MaxLits":      {litsOf(9), litsOf(9)},
	}
	for what, c := range cases {
		t.Run(what, func(t *testing.T) {
			want := clause(c.want...)
			if told := isClauseMade(s, c.list); !sameClause(told, want) {
				t.Fatalf("the document's sentence tells %v, not %v", told, want)
			}
			for _, list := range [][]impl.Lit{c.list, slices.Concat(c.list, c.list)} {
				checkClauseMake(t, s, list, want)
				slices.Reverse(list)
				checkClauseMake(t, s, list, want)
			}
		})
	}
}

// TestClauseMakeInEachOrder: it is one clause, whichever Lit and whichever side is given first.
func TestClauseMakeInEachOrder(t *testing.T) {
	s, a, b := orderSig(), fn(1), fn(2)
	f := func(kids ...impl.Term) impl.Term { return fn(5, kids...) }
	lists := [][]impl.Lit{
		litsOf(5),
		{not(b, a), is(b, a), is(a, b), not(vr(3), b), is(vr(3), a), is(b, a)},
		{is(f(a, b), b), is(b, f(b, a)), is(f(b, b), b), not(f(b, a), b), is(b, f(b, b))},
		{is(a, a), is(b, b), is(a, a), is(vr(0), vr(0)), not(a, a)},
	}
	for _, list := range lists {
		want := isClauseMade(s, list)
		for i, order := range permuted(list) {
			for k, l := range order {
				if i>>k&1 == 1 {
					order[k] = lit(l.Pos, l.R, l.L)
				}
			}
			checkClauseMake(t, s, order, want)
		}
	}
}

func TestClauseMakeOfAll(t *testing.T) {
	sigs := formSigs()
	sigs["order"] = orderSig()
	maps.Copy(sigs, wrongSigs())
	clauses := someClauses()
	for what, sig := range sigs {
		t.Run(what, func(t *testing.T) {
			for i := 0; i < len(clauses); i += 23 {
				checkClauseMake(t, sig, clauses[i].Lits, isClauseMade(sig, clauses[i].Lits))
			}
		})
	}
}

// TestClauseMakeOfMany: ClauseMake sets no limit.
func TestClauseMakeOfMany(t *testing.T) {
	s := orderSig()
	want := isClauseMade(s, someLits())
	list := slices.Concat(someLits(), someLits(), someLits())
	checkClauseMake(t, s, list, want)
	var great []impl.Lit
	for i := range 50000 {
		great = append(great, lit(i%2 == 1, vr((i*7919)%25013), fn(0)))
	}
	c := impl.ClauseMake(s, great)
	if len(c.Lits) != 50000 {
		t.Fatalf("%d of 50000", len(c.Lits))
	}
	for i, l := range c.Lits {
		if i > 0 && !isLitBefore(c.Lits[i-1], l) {
			t.Fatalf("%v stands behind %v", l, c.Lits[i-1])
		}
	}
	if again := impl.ClauseMake(s, append(great, great...)); !sameClause(again, c) {
		t.Error("each twice is not each once")
	}
}

// TestClausesOfOneMemory: where the Lits are the same lists, or one stands within another, the answer's are not.
func TestClausesOfOneMemory(t *testing.T) {
	s := orderSig()
	for _, term := range litTerms(0, 41) {
		x := roomyTerm(term)
		list := []impl.Lit{is(x, x), not(fn(3, x), x), is(fn(5, x, x), fn(3, x)), not(x, fn(2)), is(x, x)}
		plainOnes := []impl.Lit{is(term, term), not(fn(3, term), term), is(fn(5, term, term), fn(3, term)), not(term, fn(2)), is(term, term)}
		c, want := clause(list...), clause(plainOnes...)
		checkClauseAnswer(t, "ClauseMake", impl.ClauseMake(s, list), isClauseMade(s, plainOnes))
		checkClauseAnswer(t, "ClauseApply", impl.ClauseApply(s, puts(x, x), c), isClauseApplied(s, puts(term, term), want))
		checkClauseAnswer(t, "Shift", impl.Shift(c, 3), isShifted(want, 3))
		checkClauseAnswer(t, "Tidy", impl.Tidy(s, c), isTidied(s, want))
		checkTermRoom(t, "the answers written over", x, term)
	}
}

func TestClauseOk(t *testing.T) {
	s, a, b, x := orderSig(), fn(1), fn(2), vr(0)
	f := func(kids ...impl.Term) impl.Term { return fn(5, kids...) }
	g := func(kid impl.Term) impl.Term { return fn(3, kid) }
	checkClauseOk(t, s, impl.Clause{}, true)
	checkClauseOk(t, s, clause([]impl.Lit{}...), true)
	for n := range 9 {
		checkClauseOk(t, s, clause(litsOf(n)...), true)
	}
	checkClauseOk(t, s, clause(litsOf(9)...), false)
	checkClauseOk(t, s, clause(litsOf(30)...), false)
	checkClauseOk(t, s, clause(is(b, a)), true)
	checkClauseOk(t, s, clause(is(a, a)), true)
	checkClauseOk(t, s, clause(not(partsOf(60), x)), true)
	checkClauseOk(t, s, clause(not(b, a), is(b, a)), true)
	checkClauseOk(t, s, clause(is(b, a), is(g(a), b), is(g(b), x)), true)
	checkClauseOk(t, s, clause(not(b, vr(98)), not(b, vr(99)), is(vr(0), vr(0)), is(vr(1), vr(0))), true)
	wrong := map[string]impl.Clause{
		"L Before R":              clause(is(a, b)),
		"L Before R, the last":    clause(not(b, a), is(a, b)),
		"twice":                   clause(is(b, a), is(b, a)),
		"twice, of three":         clause(not(b, a), is(b, a), is(b, a)),
		"twice, not side by side": clause(not(b, a), is(b, a), not(b, a)),
		"one that holds ahead":    clause(is(b, a), not(b, a)),
		"not by L":                clause(is(g(a), b), is(b, a)),
		"not by R":                clause(is(g(a), b), is(g(a), a)),
		"the first two turned":    clause(not(g(a), b), not(b, a), is(b, a)),
		"the last two turned":     clause(not(b, a), is(g(a), b), is(b, a)),
		"not in one form":         clause(is(f(b, a), a)),
		"f in f":                  clause(is(f(f(a, b), b), a)),
		"61 parts":                clause(is(partsOf(61), a)),
		"a variable above":        clause(is(b, vr(100))),
		"a variable below 0":      clause(is(b, vr(-1))),
		"a variable with Kids":    clause(is(b, fn(-1, a))),
		"no function":             clause(is(fn(8), b)),
	}
	for what, c := range wrong {
		t.Run(what, func(t *testing.T) { checkClauseOk(t, s, c, false) })
	}
}

// TestClauseOkOfWrongLits: each Lit is asked for, wherever it stands.
func TestClauseOkOfWrongLits(t *testing.T) {
	s := orderSig()
	for what, wrong := range wrongTerms() {
		t.Run(what, func(t *testing.T) {
			for i := range 8 {
				for _, r := range []bool{false, true} {
					lits := litsOf(8)
					if r {
						lits[i].R = wrong
					} else {
						lits[i].L = wrong
					}
					checkClauseOk(t, s, clause(lits...), false)
					checkClauseOk(t, s, clause(lits[i]), false)
				}
			}
		})
	}
	for i := range 8 {
		lits := litsOf(8)
		lits[i].L, lits[i].R = lits[i].R, lits[i].L
		checkClauseOk(t, s, clause(lits...), false)
		for k := range i {
			lits = litsOf(8)
			lits[i], lits[k] = lits[k], lits[i]
			checkClauseOk(t, s, clause(lits...), false)
			lits[i] = lits[k]
			checkClauseOk(t, s, clause(lits...), false)
		}
	}
	sigs := wrongSigs()
	sigs["odd blind"] = oddBlind()
	for what, sig := range sigs {
		t.Run(what, func(t *testing.T) {
			checkClauseOk(t, sig, impl.Clause{}, true)
			checkClauseOk(t, sig, clause(not(fn(0), fn(0))), false)
			checkClauseOk(t, sig, clause(is(vr(0), vr(0)), is(vr(1), vr(0))), false)
		})
	}
}

func TestClauseOkOfAll(t *testing.T) {
	right := 0
	for _, sig := range append(slices.Collect(maps.Values(formSigs())), orderSig()) {
		for i, c := range someClauses() {
			made := isClauseMade(sig, c.Lits)
			for _, x := range []impl.Clause{c, made} {
				want := isClauseOk(sig, x)
				if got := impl.ClauseOk(sig, x); got != want {
					t.Errorf("ClauseOk(%v, %v) is %v", sig, x, got)
				}
				if i%5 == 0 {
					checkClauseOk(t, sig, x, want)
				}
				if want {
					right++
				}
			}
		}
	}
	if right < 1000 {
		t.Errorf("only %d are right", right)
	}
}

// TestClauseOkOfTermWithoutEnd: a term that holds itself is not TermOk, and no more is asked of it.
func TestClauseOkOfTermWithoutEnd(t *testing.T) {
	for f := range 8 {
		x := loopedTerm(f)
		for _, lits := range [][]impl.Lit{{is(x, x)}, {is(x, fn(1)), is(x, fn(1))}, {not(fn(2), fn(1)), not(fn(2), x)}, {not(fn(2), x), not(fn(2), x), not(x, x)}, slices.Repeat([]impl.Lit{is(x, x)}, 9)} {
			if impl.ClauseOk(orderSig(), clause(lits...)) {
				t.Errorf("a clause of a term of %d without end is right", f)
			}
		}
	}
}

func TestClauseSame(t *testing.T) {
	a, b := fn(1), fn(2)
	f := func(kids ...impl.Term) impl.Term { return fn(5, kids...) }
	none := func(x impl.Term) impl.Term { return impl.Term{F: x.F, V: x.V, Kids: []impl.Term{}} }
	checkClauseSame(t, impl.Clause{}, impl.Clause{}, true)
	checkClauseSame(t, impl.Clause{}, clause([]impl.Lit{}...), true)
	checkClauseSame(t, impl.Clause{}, clause(impl.Lit{}), false)
	checkClauseSame(t, clause(is(b, a)), clause(is(b, a)), true)
	checkClauseSame(t, clause(is(b, none(a))), clause(is(none(b), a)), true)
	checkClauseSame(t, clause(is(b, a)), clause(not(b, a)), false)
	checkClauseSame(t, clause(is(b, a)), clause(is(a, b)), false)
	checkClauseSame(t, clause(is(b, a)), clause(is(b, a), is(b, a)), false)
	checkClauseSame(t, clause(is(b, a), is(b, a)), clause(is(b, a), is(b, a)), true)
	checkClauseSame(t, clause(is(f(a, b), a)), clause(is(f(b, a), a)), false)
	checkClauseSame(t, clause(is(vr(0), a)), clause(is(vr(1), a)), false)
	checkClauseSame(t, clause(not(b, a), is(b, a)), clause(is(b, a), not(b, a)), false)
	for i := range 9 {
		lits := litsOf(8)
		checkClauseSame(t, clause(lits...), clause(litsOf(8)...), true)
		checkClauseSame(t, clause(lits[:i]...), clause(lits...), i == 8)
		if i == 8 {
			break
		}
		checkClauseSame(t, clause(lits[i+1:]...), clause(lits...), false)
		lits[i].Pos = !lits[i].Pos
		checkClauseSame(t, clause(lits...), clause(litsOf(8)...), false)
		lits = litsOf(8)
		lits[i].R = fn(3, lits[i].R)
		checkClauseSame(t, clause(lits...), clause(litsOf(8)...), false)
	}
}

func TestClauseSameOfAll(t *testing.T) {
	clauses := someClauses()
	for i, a := range clauses {
		checkClauseSame(t, a, a, true)
		for k := i % 97; k < len(clauses); k += 97 {
			if got := impl.ClauseSame(a, clauses[k]); got != sameClause(a, clauses[k]) {
				t.Errorf("ClauseSame(%v, %v) is %v", a, clauses[k], got)
			}
		}
	}
}

func TestClauseApply(t *testing.T) {
	s, a, b, x, y := orderSig(), fn(1), fn(2), vr(0), vr(1)
	f := func(kids ...impl.Term) impl.Term { return fn(5, kids...) }
	g := func(kid impl.Term) impl.Term { return fn(3, kid) }
	cases := map[string]struct {
		u    []impl.Bind
		c    []impl.Lit
		want []impl.Lit
	}{
		"no Lits":                 {puts(a), nil, nil},
		"nothing is put":          {nil, []impl.Lit{not(b, x), is(g(y), x)}, []impl.Lit{not(b, x), is(g(y), x)}},
		"another variable":        {bound(one(7, a)), []impl.Lit{not(b, x), is(g(y), x)}, []impl.Lit{not(b, x), is(g(y), x)}},
		"in each Lit":             {puts(a, b), []impl.Lit{not(g(y), x), is(y, x), is(g(x), x)}, []impl.Lit{not(g(b), a), is(b, a), is(g(a), a)}},
		"turned":                  {puts(g(a)), []impl.Lit{is(b, x)}, []impl.Lit{is(g(a), b)}},
		"in another order":        {puts(g(a)), []impl.Lit{is(b, x), is(g(a), x), is(fn(4, a, a), a)}, []impl.Lit{is(g(a), b), is(g(a), g(a)), is(fn(4, a, a), a)}},
		"behind others":           {puts(b, a), []impl.Lit{is(g(x), a), is(g(y), b)}, []impl.Lit{is(g(a), b), is(g(b), a)}},
		"two become alike":        {puts(a, a), []impl.Lit{is(b, x), is(b, y)}, []impl.Lit{is(b, a)}},
		"two of three do":         {puts(a), []impl.Lit{not(b, a), is(b, x), is(b, a)}, []impl.Lit{not(b, a), is(b, a)}},
		"all become alike":        {puts(vr(7), vr(7), vr(7)), []impl.Lit{is(g(x), x), is(g(y), y), is(g(vr(2)), vr(2))}, []impl.Lit{is(g(vr(7)), vr(7))}},
		"alike, turned":           {puts(b, a), []impl.Lit{is(y, x), is(b, a), is(x, y)}, []impl.Lit{is(b, a)}},
		"alike in one form":       {puts(f(b, vr(5))), []impl.Lit{is(f(x, a), b), is(f(vr(5), a, b), b)}, []impl.Lit{is(f(vr(5), a, b), b)}},
		"alike but for the sign":  {puts(a, a), []impl.Lit{not(b, x), is(b, y)}, []impl.Lit{not(b, a), is(b, a)}},
		"each for the other":      {puts(y, x), []impl.Lit{is(b, x), is(g(y), x)}, []impl.Lit{is(b, y), is(g(x), y)}},
		"not in what is put":      {puts(g(x)), []impl.Lit{is(b, x)}, []impl.Lit{is(g(x), b)}},
		"no SubOk, twice":         {bound(one(0, a), one(0, b)), []impl.Lit{is(g(x), x)}, []impl.Lit{is(g(a), a)}},
		"no SubOk, not in order":  {bound(one(1, a), one(0, b)), []impl.Lit{is(y, x)}, []impl.Lit{is(b, a)}},
		"no SubOk, no TermOk":     {puts(fn(9, f(b, a))), []impl.Lit{is(b, x), is(b, fn(9, f(a, b)))}, []impl.Lit{is(fn(9, f(a, b)), b)}},
		"no SubOk, V above":       {bound(one(-1, a), one(100, b)), []impl.Lit{is(vr(100), vr(-1))}, []impl.Lit{is(b, a)}},
		"Lits not in order":       {puts(a), []impl.Lit{is(g(y), x), not(x, b), is(g(y), a)}, []impl.Lit{not(b, a), is(g(y), a)}},
		"there twice as they are": {nil, []impl.Lit{is(b, a), is(a, b), is(b, a)}, []impl.Lit{is(b, a)}},
		"a variable with Kids":    {puts(b), []impl.Lit{is(fn(-1, x), x)}, []impl.Lit{is(b, fn(-1, b))}},
		"too large by that":       {puts(partsOf(60)), []impl.Lit{is(g(x), b)}, []impl.Lit{is(partsOf(61), b)}},
	}
	for what, c := range cases {
		t.Run(what, func(t *testing.T) {
			if told := isClauseApplied(s, c.u, clause(c.c...)); !sameClause(told, clause(c.want...)) {
				t.Fatalf("the document's sentence tells %v, not %v", told, c.want)
			}
			checkClauseApply(t, s, c.u, clause(c.c...), clause(c.want...))
			back := slices.Clone(c.c)
			slices.Reverse(back)
			checkClauseApply(t, s, c.u, clause(back...), clause(c.want...))
		})
	}
}

func TestClauseApplyOfAll(t *testing.T) {
	subs, clauses, fewer := allSubs(), someClauses(), 0
	for what, sig := range map[string][]impl.Sym{"order": orderSig(), "two blind": twoBlind(), "odd": oddBlind(), "none": nil} {
		t.Run(what, func(t *testing.T) {
			for i, u := range subs {
				for k := i % 311; k < len(clauses); k += 311 {
					c := clause(slices.Concat(clauses[k].Lits, isClauseApplied(sig, u, clauses[k]).Lits)...)
					want := isClauseApplied(sig, u, c)
					checkClauseApply(t, sig, u, c, want)
					if len(want.Lits) < len(isClauseMade(sig, c.Lits).Lits) {
						fewer++
					}
				}
			}
		})
	}
	if fewer < 100 {
		t.Errorf("only %d have fewer Lits by what is put", fewer)
	}
}

func TestClauseVars(t *testing.T) {
	a, b := fn(1), fn(2)
	checkClauseVars(t, impl.Clause{}, nil)
	checkClauseVars(t, clause(is(b, a)), nil)
	checkClauseVars(t, clause(withVLit(7)), nil)
	checkClauseVars(t, clause(is(b, vr(0))), []int{0})
	checkClauseVars(t, clause(is(vr(0), b)), []int{0})
	checkClauseVars(t, clause(is(vr(3), vr(3)), not(vr(3), vr(3))), []int{3})
	checkClauseVars(t, clause(not(vr(9), vr(2)), is(vr(5), vr(2)), is(b, vr(1))), []int{1, 2, 5, 9})
	checkClauseVars(t, clause(is(fn(4, vr(8), fn(5, vr(0), vr(8))), fn(3, vr(99)))), []int{0, 8, 99})
	checkClauseVars(t, clause(is(vr(math.MaxInt), vr(math.MinInt)), not(vr(-1), vr(100))), []int{math.MinInt, -1, 100, math.MaxInt})
	checkClauseVars(t, clause(is(withV(fn(-1, vr(2), fn(3, vr(1))), 4), fn(9, vr(3)))), []int{1, 2, 3, 4})
	checkClauseVars(t, clause(litsOf(8)...), []int{0, 1, 2, 3, 4, 5, 6, 7, 8})
	for _, c := range someClauses() {
		checkClauseVars(t, c, isClauseVars(c))
	}
}

// withVLit has V where no variable is.
func withVLit(v int) impl.Lit { return is(withV(fn(2), v), withV(fn(3, withV(fn(1), v)), v)) }

func TestShift(t *testing.T) {
	a, b := fn(1), fn(2)
	few := clause(not(fn(5, vr(1), vr(0)), b), is(a, vr(7)), is(a, vr(7)))
	for _, n := range []int{0, 1, 2, 20, 92, 93, 1000, -1, -7, -8, -100} {
		checkShift(t, impl.Clause{}, n, impl.Clause{})
		checkShift(t, clause(withVLit(7)), n, clause(withVLit(7)))
		checkShift(t, few, n, clause(not(fn(5, vr(1+n), vr(n)), b), is(a, vr(7+n)), is(a, vr(7+n))))
		checkShift(t, clause(is(withV(fn(-1, vr(2), fn(9, vr(-1))), 4), vr(100))), n, clause(is(withV(fn(-1, vr(2+n), fn(9, vr(n-1))), 4+n), vr(100+n))))
	}
}

// TestShiftGoesRound: V beyond what an int holds goes on from the other end, as n more does of each int.
func TestShiftGoesRound(t *testing.T) {
	v := func(l int, r int) impl.Clause { return clause(is(vr(l), fn(3, vr(r)))) }
	checkShift(t, v(0, 1), math.MaxInt, v(math.MaxInt, math.MinInt))
	checkShift(t, v(math.MaxInt, math.MaxInt-1), 1, v(math.MinInt, math.MaxInt))
	checkShift(t, v(math.MaxInt, math.MaxInt-1), 2, v(math.MinInt+1, math.MinInt))
	checkShift(t, v(math.MaxInt, math.MaxInt), math.MaxInt, v(-2, -2))
	checkShift(t, v(math.MinInt, math.MinInt+1), -1, v(math.MaxInt, math.MinInt))
	checkShift(t, v(0, -1), math.MinInt, v(math.MinInt, math.MaxInt))
	checkShift(t, v(math.MinInt, 1), math.MinInt, v(0, math.MinInt+1))
	checkShift(t, v(99, -99), 0, v(99, -99))
}

func TestShiftOfAll(t *testing.T) {
	numbers := []int{0, 1, -1, 20, -20, 100, math.MaxInt, math.MinInt}
	for i, c := range someClauses() {
		n := numbers[i%len(numbers)]
		want := isShifted(c, n)
		checkShift(t, c, n, want)
		if back := impl.Shift(impl.Shift(c, n), -n); !sameClause(back, c) {
			t.Errorf("%v, %d more and less, is %v", c, n, back)
		}
	}
}

func TestTidy(t *testing.T) {
	s, a, b := orderSig(), fn(1), fn(2)
	f := func(kids ...impl.Term) impl.Term { return fn(5, kids...) }
	g := func(kid impl.Term) impl.Term { return fn(3, kid) }
	cases := map[string]struct {
		c    []impl.Lit
		want []impl.Lit
	}{
		"no Lits":                 {nil, nil},
		"no variables":            {[]impl.Lit{not(b, a), is(b, a)}, []impl.Lit{not(b, a), is(b, a)}},
		"tidy already":            {[]impl.Lit{not(b, vr(0)), is(g(vr(2)), vr(1))}, []impl.Lit{not(b, vr(0)), is(g(vr(2)), vr(1))}},
		"one variable":            {[]impl.Lit{is(b, vr(7))}, []impl.Lit{is(b, vr(0))}},
		"MaxVar":                  {[]impl.Lit{is(vr(99), vr(98))}, []impl.Lit{is(vr(1), vr(0))}},
		"0 stays":                 {[]impl.Lit{is(g(vr(5)), vr(0))}, []impl.Lit{is(g(vr(1)), vr(0))}},
		"0 is not there":          {[]impl.Lit{is(g(vr(2)), vr(1))}, []impl.Lit{is(g(vr(1)), vr(0))}},
		"more than once":          {[]impl.Lit{not(f(vr(4), vr(4)), vr(9)), is(g(vr(4)), vr(9))}, []impl.Lit{not(f(vr(0), vr(0)), vr(1)), is(g(vr(0)), vr(1))}},
		"by size, not by place":   {[]impl.Lit{not(g(vr(9)), vr(7)), is(b, vr(3))}, []impl.Lit{not(g(vr(2)), vr(1)), is(b, vr(0))}},
		"below 0":                 {[]impl.Lit{is(g(vr(-1)), vr(-7)), is(vr(0), b)}, []impl.Lit{is(b, vr(2)), is(g(vr(1)), vr(0))}},
		"great":                   {[]impl.Lit{is(vr(math.MaxInt), vr(math.MinInt)), is(g(vr(100)), a)}, []impl.Lit{is(vr(2), vr(0)), is(g(vr(1)), a)}},
		"Lits in another order":   {[]impl.Lit{is(g(vr(3)), b), not(b, vr(4))}, []impl.Lit{not(b, vr(1)), is(g(vr(0)), b)}},
		"L Before R":              {[]impl.Lit{is(vr(3), vr(8))}, []impl.Lit{is(vr(1), vr(0))}},
		"twice":                   {[]impl.Lit{is(b, vr(6)), is(vr(6), b)}, []impl.Lit{is(b, vr(0))}},
		"alike but for variables": {[]impl.Lit{is(b, vr(6)), is(b, vr(7))}, []impl.Lit{is(b, vr(0)), is(b, vr(1))}},
		"not in one form":         {[]impl.Lit{is(f(vr(7), f(vr(3), a)), f(vr(3), vr(7), a))}, []impl.Lit{is(f(vr(0), vr(1), a), f(vr(0), vr(1), a))}},
		"a V at a function":       {[]impl.Lit{is(withV(b, 7), vr(7))}, []impl.Lit{is(withV(b, 7), vr(0))}},
		"a variable with Kids":    {[]impl.Lit{is(withV(fn(-1, vr(8)), 5), vr(3))}, []impl.Lit{is(withV(fn(-1, vr(2)), 1), vr(0))}},
		"with and without Kids":   {[]impl.Lit{is(withV(fn(-1, a), 5), vr(5))}, []impl.Lit{is(fn(-1, a), vr(0))}},
		"no function":             {[]impl.Lit{is(fn(9, vr(4)), fn(-2, vr(2)))}, []impl.Lit{is(fn(9, vr(1)), fn(-2, vr(0)))}},
		"zero":                    {[]impl.Lit{{}}, []impl.Lit{{}}},
		"MaxLits":                 {litsOf(8), litsOf(8)},
		"one more than MaxLits":   {isShifted(clause(litsOf(9)...), 5).Lits, litsOf(9)},
	}
	for what, c := range cases {
		t.Run(what, func(t *testing.T) {
			if told := isTidied(s, clause(c.c...)); !sameClause(told, clause(c.want...)) {
				t.Fatalf("the document's sentence tells %v, not %v", told, c.want)
			}
			checkTidy(t, s, clause(c.c...), clause(c.want...))
			checkTidy(t, s, clause(c.want...), clause(c.want...))
			back := slices.Clone(c.c)
			slices.Reverse(back)
			checkTidy(t, s, clause(back...), clause(c.want...))
		})
	}
}

func TestTidyOfAll(t *testing.T) {
	sigs := formSigs()
	sigs["order"] = orderSig()
	maps.Copy(sigs, wrongSigs())
	clauses := someClauses()
	for what, sig := range sigs {
		t.Run(what, func(t *testing.T) {
			for i := 3; i < len(clauses); i += 23 {
				checkTidy(t, sig, clauses[i], isTidied(sig, clauses[i]))
			}
		})
	}
}

func TestClauseText(t *testing.T) {
	s, a, b := orderSig(), fn(1), fn(2)
	checkClauseText(t, s, impl.Clause{}, "false")
	checkClauseText(t, s, clause([]impl.Lit{}...), "false")
	checkClauseText(t, s, clause(is(b, a)), "b = a")
	checkClauseText(t, s, clause(not(a, b)), "a != b")
	checkClauseText(t, s, clause(impl.Lit{}), "tt != tt")
	checkClauseText(t, s, clause(not(b, vr(4)), is(a, vr(7))), "b != X4 | a = X7")
	checkClauseText(t, s, clause(is(b, a), is(b, a), not(b, a)), "b = a | b = a | b != a")
	checkClauseText(t, s, clause(is(fn(5, b, fn(3, a)), fn(9, b)), not(vr(-1), fn(-1, a))), "f(b,g(a)) = ?(b) | X-1 != X0")
	checkClauseText(t, nil, impl.Clause{}, "false")
	checkClauseText(t, nil, clause(is(a, vr(100)), is(b, a)), "? = X100 | ? = ?")
	checkClauseText(t, []impl.Sym{plain(" | ", 0), plain("false", 0)}, clause(is(fn(0), fn(1)), not(fn(1), fn(0))), " |  = false | false !=  | ")
	for what, sig := range allSigs() {
		t.Run(what, func(t *testing.T) {
			for i, c := range someClauses() {
				if i%31 == 0 {
					checkClauseText(t, sig, c, isClauseText(sig, c))
				}
			}
		})
	}
}

func TestClausesOfDeepTerms(t *testing.T) {
	const deep = 1 << 17
	s, b := orderSig(), fn(2)
	x, y := deepTerm(3, deep, vr(30)), deepTerm(3, deep, vr(40))
	c := impl.ClauseMake(s, []impl.Lit{is(b, x), not(x, y), is(x, b)})
	if len(c.Lits) != 2 || !impl.TermSame(c.Lits[0].L, y) || !impl.TermSame(c.Lits[0].R, x) || !impl.TermSame(c.Lits[1].L, x) {
		t.Fatal("ClauseMake of deep terms")
	}
	if impl.ClauseOk(s, c) || !impl.ClauseSame(c, c) || impl.ClauseSame(c, impl.Shift(c, 1)) {
		t.Error("ClauseOk or ClauseSame of deep terms")
	}
	if !slices.Equal(impl.ClauseVars(c), []int{30, 40}) || !slices.Equal(impl.ClauseVars(impl.Shift(c, -30)), []int{0, 10}) || !slices.Equal(impl.ClauseVars(impl.Tidy(s, c)), []int{0, 1}) {
		t.Error("ClauseVars, Shift or Tidy of deep terms")
	}
	put := impl.ClauseApply(s, bound(one(30, b), one(40, b)), c)
	if len(put.Lits) != 2 || !impl.TermSame(put.Lits[0].L, put.Lits[0].R) || !impl.TermSame(put.Lits[1].L, deepTerm(3, deep, b)) {
		t.Error("ClauseApply of deep terms")
	}
	of := func(v string) string { return strings.Repeat("g(", deep) + v + strings.Repeat(")", deep) }
	if impl.ClauseText(s, c) != of("X40")+" != "+of("X30")+" | "+of("X30")+" = b" {
		t.Error("ClauseText of deep terms")
	}
}
