package tests

import (
	"math/rand"
	"slices"
	"testing"

	"loop.example/g00461/impl"
)

// checkEachSolves: each u solves all equations, by the program and by the document's sentence, and is told once.
func checkEachSolves(t *testing.T, s []impl.Sym, a []impl.Term, b []impl.Term, list [][]impl.Bind) {
	t.Helper()
	for i, u := range list {
		if !impl.SubOk(s, u) {
			t.Errorf("%v, told of %v and %v, is not SubOk", u, a, b)
		}
		for k := range a {
			if !impl.Solved(s, u, a[k], b[k]) || !isSolved(s, u, a[k], b[k]) {
				t.Errorf("%v does not solve %v and %v", u, a[k], b[k])
			}
		}
		if hasWay(list[:i], u) {
			t.Errorf("%v is told twice of %v and %v", u, a, b)
		}
	}
}

// TestEachSolutionSolves is the first half of promise 9: of pairs that share variables, and of several equations.
func TestEachSolutionSolves(t *testing.T) {
	s, terms := orderSig(), append(orderTerms(), matchPatterns()...)
	asked := 0
	for i, a := range terms {
		for k := i % 3; k < len(terms); k += 3 {
			list, _ := impl.Unify(s, a, terms[k])
			checkEachSolves(t, s, []impl.Term{a}, []impl.Term{terms[k]}, list)
			asked += len(list)
		}
	}
	r := rand.New(rand.NewSource(3))
	for range 2000 {
		var a, b []impl.Term
		for range 1 + r.Intn(4) {
			f := 5 + r.Intn(2)
			a, b = append(a, drawn(r, f)), append(b, drawn(r, f))
		}
		list, _ := impl.UnifyAll(s, a, b)
		checkEachSolves(t, s, a, b, list)
		asked += len(list)
	}
	if asked < 4000 {
		t.Errorf("only %d were asked", asked)
	}
}

// mayBe are terms that are put for variables, to see whether they solve; those of X50 stand for themselves.
func mayBe() []impl.Term {
	a, b := fn(1), fn(2)
	return []impl.Term{a, b, vr(50), fn(3, a), fn(5, a, a), fn(5, a, b), fn(6, a, b), fn(5, vr(50), a), fn(5, a, a, b)}
}

// eachPut tells all that can be put of those for these variables.
func eachPut(vars []int, tell func(u []impl.Bind)) {
	terms := mayBe()
	var fill func(u []impl.Bind)
	fill = func(u []impl.Bind) {
		if len(u) == len(vars) {
			tell(u)
			return
		}
		for _, x := range terms {
			fill(append(u[:len(u):len(u)], one(vars[len(u)], x)))
		}
	}
	fill(nil)
}

// isMadeOfOne: what one of list puts for these variables becomes what u does, with something put for its own ones.
func isMadeOfOne(s []impl.Sym, vars []int, list [][]impl.Bind, u []impl.Bind) bool {
	for _, x := range list {
		var from, to []impl.Term
		for _, v := range vars {
			from, to = append(from, found(x, v)), append(to, found(u, v))
		}
		if met, _ := metWays(s, fn(99, from...), fn(99, to...), 100000); len(met) > 0 {
			return true
		}
	}
	return false
}

// checkMadeOfOne puts all that can be put, and tells how often it solves.
func checkMadeOfOne(t *testing.T, s []impl.Sym, a []impl.Term, b []impl.Term, list [][]impl.Bind) int {
	t.Helper()
	solve := 0
	vars := variablesOf(append(slices.Clone(a), b...))
	eachPut(vars, func(u []impl.Bind) {
		for k := range a {
			if !sameTerm(isApplied(s, u, a[k]), isApplied(s, u, b[k])) {
				return
			}
		}
		solve++
		if !isMadeOfOne(s, vars, list, u) {
			t.Errorf("%v solves %v and %v, but is made of none of %q", u, a, b, wayTexts(s, list))
		}
	})
	return solve
}

// TestWhateverSolvesIsMadeOfOne is the second half of promise 9, of pairs that share variables.
func TestWhateverSolvesIsMadeOfOne(t *testing.T) {
	s, terms := orderSig(), matchPatterns()
	asked := 0
	for i, a := range terms {
		for k := i % 5; k < len(terms); k += 5 {
			if list, how := impl.Unify(s, a, terms[k]); how == impl.UnDone {
				asked += checkMadeOfOne(t, s, []impl.Term{a}, []impl.Term{terms[k]}, list)
			}
		}
	}
	if asked < 2000 {
		t.Errorf("only %d were asked", asked)
	}
}

// apart is t with other variables.
func apart(t impl.Term) impl.Term {
	return inPlace(bound(one(0, vr(10)), one(1, vr(11)), one(2, vr(12))), t)
}

// TestWhateverSolvesIsMadeOfOneApart is the same of pairs that share no variables: what becomes of the one is looked up among what becomes of the other.
func TestWhateverSolvesIsMadeOfOneApart(t *testing.T) {
	s, terms := orderSig(), matchPatterns()
	asked := 0
	for i, a := range terms {
		become := map[string][][]impl.Bind{}
		eachPut(variablesOf([]impl.Term{a}), func(u []impl.Bind) {
			text := textOfAll(isApplied(s, u, a))
			become[text] = append(become[text], u)
		})
		for k := i % 9; k < len(terms); k += 9 {
			b := oneForm(s, apart(terms[k]))
			list, how := impl.Unify(s, a, b)
			if how != impl.UnDone {
				continue
			}
			vars := variablesOf([]impl.Term{a, b})
			eachPut(variablesOf([]impl.Term{b}), func(u []impl.Bind) {
				for n, x := range become[textOfAll(isApplied(s, u, b))] {
					if n > 3 {
						return
					}
					asked++
					if both := append(x[:len(x):len(x)], u...); !isMadeOfOne(s, vars, list, both) {
						t.Errorf("%v solves %v and %v, but is made of none of %q", both, a, b, wayTexts(s, list))
					}
				}
			})
		}
	}
	if asked < 2000 {
		t.Errorf("only %d were asked", asked)
	}
}

// TestWhateverSolvesAllIsMadeOfOne is the same of two equations together, of which something is known to solve them.
func TestWhateverSolvesAllIsMadeOfOne(t *testing.T) {
	s, terms := orderSig(), matchPatterns()
	few := []impl.Term{fn(1), fn(2), fn(5, fn(1), fn(2)), fn(3, fn(1)), vr(2)}
	asked := 0
	for i := range 600 {
		known := puts(few[i%5], few[i/5%5])
		a := []impl.Term{terms[i%len(terms)], terms[i*7%len(terms)]}
		b := []impl.Term{isApplied(s, known, a[0]), isApplied(s, known, a[1])}
		if list, how := impl.UnifyAll(s, a, b); how == impl.UnDone {
			asked += checkMadeOfOne(t, s, a, b, list)
		}
	}
	if asked < 300 {
		t.Errorf("only %d were asked", asked)
	}
}

// TestWhatMatchesUnifies: a pattern that becomes a term without variables is solved with it, and the other way round.
func TestWhatMatchesUnifies(t *testing.T) {
	s, asked := orderSig(), 0
	for _, p := range matchPatterns() {
		for _, x := range matchTerms() {
			list, how := impl.Unify(s, p, x)
			if hasVariable(x) || how != impl.UnDone {
				continue
			}
			asked++
			if impl.Instance(s, p, x) != (len(list) > 0) || impl.Unifies(s, x, p) != (len(list) > 0) {
				t.Errorf("%v and %v have %d solutions", p, x, len(list))
			}
			ways, _ := impl.Matches(s, p, x)
			for _, u := range ways {
				if !isMadeOfOne(s, impl.VarsOf(p), list, u) {
					t.Errorf("%v becomes %v with %v, made of none of %q", p, x, u, wayTexts(s, list))
				}
			}
		}
	}
	if asked < 300 {
		t.Errorf("only %d were asked", asked)
	}
}
