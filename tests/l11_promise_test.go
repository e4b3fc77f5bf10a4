package tests

import (
	"maps"
	"slices"
	"testing"

	"loop.example/g00461/impl"
)

// countUp are 0, 1 and so on, n of them.
func countUp(n int) []int {
	var out []int
	for i := range n {
		out = append(out, i)
	}
	return out
}

// checkTidiedTwice tells c tidied once.
func checkTidiedTwice(t *testing.T, s []impl.Sym, c impl.Clause) impl.Clause {
	t.Helper()
	once := impl.Tidy(s, c)
	twice := impl.Tidy(s, once)
	if !sameClause(once, twice) || !impl.ClauseSame(once, twice) || impl.ClauseText(s, once) != impl.ClauseText(s, twice) {
		t.Errorf("%v, tidied once, is %v, twice %v", c, once, twice)
	}
	if vars := impl.ClauseVars(once); !slices.Equal(vars, countUp(len(isClauseVars(c)))) {
		t.Errorf("%v, tidied, has the variables %v", c, vars)
	}
	return once
}

// TestTidiedTwiceIsAsTidiedOnce is promise 11: of clauses that are ClauseOk, and of others, with functions that are SigOk, and with others.
func TestTidiedTwiceIsAsTidiedOnce(t *testing.T) {
	sigs := formSigs()
	sigs["order"] = orderSig()
	maps.Copy(sigs, wrongSigs())
	clauses := someClauses()
	for what, sig := range sigs {
		t.Run(what, func(t *testing.T) {
			for i := 0; i < len(clauses); i += 11 {
				checkTidiedTwice(t, sig, clauses[i])
				checkTidiedTwice(t, sig, impl.Shift(clauses[i], 90))
				checkTidiedTwice(t, sig, impl.Shift(clauses[i], -50))
			}
		})
	}
}

// TestTidyOfWhatIsRight: it is as right as it was, and tells the same but for the numbers of variables, which stay in their order.
func TestTidyOfWhatIsRight(t *testing.T) {
	s, turned := orderSig(), 0
	for _, c := range rightClauses() {
		vars := isClauseVars(c)
		tidy := checkTidiedTwice(t, s, c)
		if !impl.ClauseOk(s, tidy) || len(tidy.Lits) != len(c.Lits) {
			t.Errorf("%v, tidied, is %v", c, tidy)
		}
		back := clauseWithNumbers(tidy, func(v int) int { return vars[v] })
		if !sameClause(back, c) {
			t.Errorf("%v, tidied, is %v: with its numbers %v", c, tidy, back)
		}
		if !sameClause(tidy, c) {
			turned++
		}
	}
	if turned < 100 {
		t.Errorf("only %d were not tidy already", turned)
	}
}

// TestTidyOfAlikeClauses: which Lit and which side is first, how far the numbers are shifted, and what is there twice, makes no other one.
func TestTidyOfAlikeClauses(t *testing.T) {
	s := orderSig()
	for i, c := range rightClauses() {
		want := impl.Tidy(s, c)
		back := slices.Clone(c.Lits)
		slices.Reverse(back)
		for k, l := range back {
			if (i>>k)&1 == 0 {
				back[k] = lit(l.Pos, l.R, l.L)
			}
		}
		others := []impl.Clause{impl.Shift(c, 1), impl.Shift(c, 20), impl.Shift(c, -1000), impl.Shift(want, 7), clause(back...), clause(slices.Concat(back, c.Lits)...), clauseWithNumbers(c, func(v int) int { return v * v * 3 })}
		for _, d := range others {
			if got := checkTidiedTwice(t, s, d); !sameClause(got, want) || !impl.ClauseSame(got, want) {
				t.Errorf("%v, tidied, is %v, not %v", d, got, want)
			}
		}
	}
}

// TestTidyKeepsVariablesApart: what is not alike but for how great the numbers are stays so.
func TestTidyKeepsVariablesApart(t *testing.T) {
	s, a, b := orderSig(), fn(1), fn(2)
	unlikeOnes := []impl.Clause{
		clause(is(a, vr(3)), is(b, vr(5))),
		clause(is(a, vr(5)), is(b, vr(3))),
		clause(is(a, vr(3)), is(b, vr(3))),
		clause(is(a, vr(3)), not(b, vr(3))),
		clause(not(a, vr(3)), not(b, vr(5))),
		clause(is(a, vr(3))),
		clause(is(fn(4, vr(3), vr(5)), a)),
		clause(is(fn(4, vr(5), vr(3)), a)),
		clause(is(fn(4, vr(5), vr(5)), a)),
		clause(is(fn(5, vr(3), vr(5), vr(5)), a)),
		clause(is(fn(5, vr(3), vr(3), vr(5)), a)),
	}
	for i, c := range unlikeOnes {
		for k, d := range unlikeOnes {
			if x, y := checkTidiedTwice(t, s, c), impl.Tidy(s, d); impl.ClauseSame(x, y) != (i == k) {
				t.Errorf("%v and %v, tidied, are %v and %v", c, d, x, y)
			}
		}
	}
}

// TestClauseMadeTwiceIsAsMadeOnce: what ClauseMake makes of few Lits that are right is ClauseOk, and is it, made again.
func TestClauseMadeTwiceIsAsMadeOnce(t *testing.T) {
	s := orderSig()
	for _, c := range someClauses() {
		once := impl.ClauseMake(s, c.Lits)
		if twice := impl.ClauseMake(s, once.Lits); !impl.ClauseSame(once, twice) {
			t.Errorf("%v, made once, is %v, twice %v", c, once, twice)
		}
		if put := impl.ClauseApply(s, nil, c); !impl.ClauseSame(put, once) {
			t.Errorf("%v, with nothing put, is %v, not %v", c, put, once)
		}
		if impl.ClauseOk(s, c) && !impl.ClauseSame(c, once) {
			t.Errorf("%v is right, but made %v", c, once)
		}
		right := len(once.Lits) <= 8 && !slices.ContainsFunc(once.Lits, func(l impl.Lit) bool { return !isLitOk(s, l) })
		if impl.ClauseOk(s, once) != right {
			t.Errorf("%v, made %v, is right, or not, against its Lits", c, once)
		}
	}
}
