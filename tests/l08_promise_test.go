package tests

import (
	"testing"

	"loop.example/g00461/impl"
)

// mayBePut is all that can be put for a variable where t is to come of it: what is within t, and what some Kids of a blind function within t make.
func mayBePut(s []impl.Sym, t impl.Term) []impl.Term {
	var out []impl.Term
	for _, x := range partsList(t) {
		out = append(out, x)
		for sum := 1; isAc(s, x.F) && sum < 1<<len(x.Kids); sum++ {
			some, _ := chosen(x.F, x.Kids, sum)
			out = append(out, some)
		}
	}
	return onceEach(out)
}

// triedWays puts each of those for each variable of p, and keeps what makes t of it.
func triedWays(s []impl.Sym, p impl.Term, t impl.Term) [][]impl.Bind {
	vars, terms := impl.VarsOf(p), mayBePut(s, t)
	var out [][]impl.Bind
	var fill func(u []impl.Bind)
	fill = func(u []impl.Bind) {
		if len(u) < len(vars) {
			for _, x := range terms {
				fill(append(u[:len(u):len(u)], one(vars[len(u)], x)))
			}
			return
		}
		if sameTerm(isApplied(s, u, p), t) {
			out = append(out, u)
		}
	}
	fill(nil)
	return out
}

// matchPatterns have up to three variables, up to two of them within one blind function more than once.
func matchPatterns() []impl.Term {
	s, a := orderSig(), fn(1)
	few := []impl.Term{vr(0), vr(1), vr(2), a, fn(3, vr(0)), fn(6, vr(0), vr(1)), fn(6, vr(2), a), fn(5, vr(1), vr(1))}
	out := few
	for i, x := range few {
		for _, y := range few[i:] {
			out = append(out, oneForm(s, fn(5, x, y)), fn(4, y, x), oneForm(s, fn(5, vr(1), x, y)), oneForm(s, fn(4, fn(5, x, vr(0)), y)))
		}
	}
	return onceEach(out)
}

// matchTerms are small ones, of variables that the patterns have and of others.
func matchTerms() []impl.Term {
	s, a, b := orderSig(), fn(1), fn(2)
	few := []impl.Term{a, b, vr(0), vr(5), fn(3, a), fn(6, a, b), fn(5, a, b)}
	out := few
	for i, x := range few {
		for _, y := range few[i:] {
			out = append(out, oneForm(s, fn(5, x, y)), fn(4, x, y), oneForm(s, fn(5, a, x, y)), oneForm(s, fn(4, fn(5, x, b), y)))
		}
	}
	return onceEach(out)
}

// TestWithWhatIsPutThePatternIsTheTerm is promise 8: of each way, and of all of them, told by trying all that may be put.
func TestWithWhatIsPutThePatternIsTheTerm(t *testing.T) {
	s := orderSig()
	asked, terms := 0, matchTerms()
	for _, p := range matchPatterns() {
		for _, x := range terms {
			asked += checkPromise(t, s, p, x)
		}
	}
	if asked < 1000 {
		t.Errorf("only %d ways were asked", asked)
	}
}

// checkPromise tells how many ways there are.
func checkPromise(t *testing.T, s []impl.Sym, p impl.Term, x impl.Term) int {
	t.Helper()
	got, ok := impl.Matches(s, p, x)
	if !ok {
		t.Errorf("the ways in which %v becomes %v are not told", p, x)
		return 0
	}
	for i, u := range got {
		checkIsWay(t, s, p, x, u)
		if hasWay(got[:i], u) {
			t.Errorf("%v becomes %v with %v twice", p, x, u)
		}
	}
	all := triedWays(s, p, x)
	for _, u := range all {
		if !hasWay(got, u) {
			t.Errorf("%v becomes %v with %v, too, not only %q", p, x, u, wayTexts(s, got))
		}
	}
	if len(got) != len(all) || impl.Instance(s, p, x) != (len(all) > 0) {
		t.Errorf("there are %d ways in which %v becomes %v, not %d", len(all), p, x, len(got))
	}
	return len(got)
}

// checkIsWay: all variables of p, and none else, are put, and with them p is x.
func checkIsWay(t *testing.T, s []impl.Sym, p impl.Term, x impl.Term, u []impl.Bind) {
	t.Helper()
	var vars []int
	for i, b := range u {
		vars = append(vars, b.V)
		if i > 0 && u[i-1].V >= b.V || howOften(p, b.V) == 0 || !isOk(s, b.T) {
			t.Errorf("%v is put in %v to become %v", u, p, x)
		}
	}
	if len(vars) != len(impl.VarsOf(p)) {
		t.Errorf("%v is put for some variables of %v alone", u, p)
	}
	if y := impl.Apply(s, u, p); !sameTerm(y, x) || !sameTerm(isApplied(s, u, p), x) {
		t.Errorf("%v put in %v is %v, not %v", u, p, y, x)
	}
}

// TestWhatWasPutIsFound: whatever is put in a pattern, that it was put is one of the ways.
func TestWhatWasPutIsFound(t *testing.T) {
	s := orderSig()
	a, b := fn(1), fn(2)
	terms := []impl.Term{a, vr(0), vr(2), fn(3, vr(1)), fn(5, a, b), fn(5, vr(0), vr(1)), fn(6, a, a), fn(6, vr(0), b), fn(4, fn(5, a, b), vr(0))}
	asked := 0
	for _, p := range append(matchPatterns(), orderTerms()...) {
		vars := impl.VarsOf(p)
		for i := range len(terms) * len(terms) {
			var u []impl.Bind
			for k, v := range vars {
				u = append(u, one(v, terms[(i+k*(1+i/len(terms)))%len(terms)]))
			}
			x := isApplied(s, u, p)
			list, ok := impl.Matches(s, p, x)
			if !ok {
				if _, right := isMatches(s, p, x); right {
					t.Errorf("the ways in which %v becomes %v are not told", p, x)
				}
				continue
			}
			asked++
			if !hasWay(list, u) || !impl.Instance(s, p, x) {
				t.Errorf("that %v becomes %v with %v is not told", p, x, u)
			}
		}
	}
	if asked < 5000 {
		t.Errorf("only %d were asked", asked)
	}
}

// TestEachTermIsAnInstanceOfItself: each variable is put for itself, as the first way or a later one; and each is one of a variable.
func TestEachTermIsAnInstanceOfItself(t *testing.T) {
	s := orderSig()
	for _, x := range append(orderTerms(), matchTerms()...) {
		var itself []impl.Bind
		for _, v := range impl.VarsOf(x) {
			itself = append(itself, one(v, vr(v)))
		}
		list, ok := impl.Matches(s, x, x)
		if !ok || !hasWay(list, itself) || !impl.Instance(s, x, x) {
			t.Errorf("%v becomes itself with %q", x, wayTexts(s, list))
		}
		u, ok := impl.MatchOne(s, vr(50), x)
		if !ok || !sameBinds(u, bound(one(50, x))) {
			t.Errorf("a variable becomes %v with %v", x, u)
		}
	}
}
