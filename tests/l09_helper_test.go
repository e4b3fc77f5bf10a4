package tests

import (
	"slices"
	"testing"

	"loop.example/g00461/impl"
)

// unifier goes the document's way word by word: it counts the equations that it looks at up to a limit, and keeps each u that it tells, as often as it tells it.
type unifier struct {
	s      []impl.Sym
	limit  int
	looked int
	met    [][]impl.Bind
	// ends: something else than these counts makes it UnFuel.
	ends bool
}

func (w *unifier) solve(list [][2]impl.Term, u []impl.Bind, next int) {
	if w.ends || w.looked > w.limit {
		return
	}
	if len(list) == 0 {
		w.met = append(w.met, u)
		return
	}
	w.looked++
	x, y, others := isApplied(w.s, u, list[0][0]), isApplied(w.s, u, list[0][1]), list[1:]
	switch {
	case sameTerm(x, y):
		w.solve(others, u, next)
	case x.F == -1:
		w.put(x.V, y, others, u, next)
	case y.F == -1:
		w.put(y.V, x, others, u, next)
	case x.F != y.F:
	case isAc(w.s, x.F):
		w.blind(x, y, others, u, next)
	default:
		w.solve(append(inPairs(x.Kids, y.Kids), others...), u, next)
	}
}

func inPairs(a []impl.Term, b []impl.Term) [][2]impl.Term {
	var out [][2]impl.Term
	for i := range a {
		out = append(out, [2]impl.Term{a[i], b[i]})
	}
	return out
}

func (w *unifier) put(v int, t impl.Term, others [][2]impl.Term, u []impl.Bind, next int) {
	if howOften(t, v) > 0 {
		return
	}
	u = isAdded(w.s, u, v, t)
	for _, b := range u {
		w.ends = w.ends || !isOk(w.s, b.T)
	}
	w.solve(others, u, next)
}

func (w *unifier) blind(x impl.Term, y impl.Term, others [][2]impl.Term, u []impl.Bind, next int) {
	left, right := leftAway(x.Kids, y.Kids)
	if len(left) == 0 || len(right) == 0 {
		return
	}
	xs, ys := onceEach(left), onceEach(right)
	a, b := standing(left, xs), standing(right, ys)
	ways := leastWays(a, b)
	if len(ways) == 0 || len(ways) > 8 {
		w.ends = true
		return
	}
	for sum := 1; sum < 1<<len(ways); sum++ {
		w.choose(x.F, append(slices.Clone(xs), ys...), ways, sum, others, u, next)
	}
}

// leastWays are none where the document's Basis is false.
func leastWays(a []int, b []int) [][]int {
	if len(a) > 5 || len(b) > 5 || slices.Max(a) > 4 || slices.Max(b) > 4 {
		return nil
	}
	if len(a)*len(b) > 8 {
		// One way at least for each two of them: more than are taken anyway.
		return make([][]int, 9)
	}
	return climbed(a, b)
}

func (w *unifier) choose(f int, kids []impl.Term, ways [][]int, sum int, others [][2]impl.Term, u []impl.Bind, next int) {
	var list [][2]impl.Term
	for i, kid := range kids {
		var news []impl.Term
		v := next
		for k, way := range ways {
			if sum>>k&1 == 1 {
				news = append(news, alike(way[i], vr(v))...)
				v++
			}
		}
		if len(news) == 0 || len(news) > 1 && kid.F != -1 {
			return
		}
		list = append(list, [2]impl.Term{kid, makes(w.s, f, news)})
	}
	for k := range ways {
		next += sum >> k & 1
	}
	w.ends = w.ends || next > 100
	w.solve(append(list, others...), u, next)
}

func leftAway(xs []impl.Term, ys []impl.Term) ([]impl.Term, []impl.Term) {
	var left []impl.Term
	for _, x := range xs {
		i := slices.IndexFunc(ys, func(y impl.Term) bool { return sameTerm(x, y) })
		if i < 0 {
			left = append(left, x)
			continue
		}
		ys = cutOut(ys, i)
	}
	return left, ys
}

func standing(list []impl.Term, once []impl.Term) []int {
	out := make([]int, len(once))
	for _, x := range list {
		out[slices.IndexFunc(once, func(y impl.Term) bool { return sameTerm(x, y) })]++
	}
	return out
}

func variablesOf(list []impl.Term) []int {
	var out []int
	for _, t := range list {
		for _, x := range partsList(t) {
			if x.F == -1 && !slices.Contains(out, x.V) {
				out = append(out, x.V)
			}
		}
	}
	slices.Sort(out)
	return out
}

// metUnits asks nothing of a and b, but that they are as many.
func metUnits(s []impl.Sym, a []impl.Term, b []impl.Term, limit int) *unifier {
	next := 0
	if vars := variablesOf(append(slices.Clone(a), b...)); len(vars) > 0 {
		next = vars[len(vars)-1] + 1
	}
	w := &unifier{s: s, limit: limit}
	w.solve(inPairs(a, b), nil, next)
	return w
}

func allOk(s []impl.Sym, list []impl.Term) bool {
	return !slices.ContainsFunc(list, func(t impl.Term) bool { return !isOk(s, t) })
}

// isUnifyAll is the document's sentence on UnifyAll, word by word.
func isUnifyAll(s []impl.Sym, a []impl.Term, b []impl.Term) ([][]impl.Bind, int) {
	if len(a) != len(b) || len(a) < 1 || len(a) > 4 || !allOk(s, a) || !allOk(s, b) {
		return nil, 1
	}
	w := metUnits(s, a, b, 400)
	list := onceEachWay(w.met)
	if w.ends || w.looked > 400 || len(list) > 60 {
		return nil, 2
	}
	return list, 0
}

func isUnify(s []impl.Sym, a impl.Term, b impl.Term) ([][]impl.Bind, int) {
	return isUnifyAll(s, []impl.Term{a}, []impl.Term{b})
}

// isSolved is the document's sentence on Solved, word by word.
func isSolved(s []impl.Sym, u []impl.Bind, a impl.Term, b impl.Term) bool {
	return isSubOk(s, u) && sameTerm(isApplied(s, u, a), isApplied(s, u, b))
}

func roomyTerms(list []impl.Term) []impl.Term {
	var out []impl.Term
	for _, x := range list {
		out = append(out, roomyTerm(x))
	}
	return withRoom(out, spareTerm)
}

// checkTermsRoom holds what roomyTerms made of want against want.
func checkTermsRoom(t *testing.T, what string, got []impl.Term, want []impl.Term) {
	t.Helper()
	checkTermRoom(t, what, fn(0, got...), fn(0, want...))
}

// checkUnify asks Unify and Unifies, and UnifyAll of the one equation, each twice.
func checkUnify(t *testing.T, sig []impl.Sym, a impl.Term, b impl.Term, want [][]impl.Bind, wantHow int) {
	t.Helper()
	s, x, y := withRoom(sig, spareSym), roomyTerm(a), roomyTerm(b)
	for range 2 {
		got, how := impl.Unify(s, x, y)
		if !sameWays(got, want) || how != wantHow {
			t.Errorf("Unify(%v, %s, %s) is %q %d, not %q %d", sig, impl.TermText(sig, a), impl.TermText(sig, b), wayTexts(sig, got), how, wayTexts(sig, want), wantHow)
			return
		}
		checkOwnWays(t, "Unify", got, want)
		checkMatchArgs(t, "Unify, its answer written over", s, sig, x, a, y, b)
		if is := impl.Unifies(s, x, y); is != (wantHow == 0 && len(want) > 0) {
			t.Errorf("Unifies(%v, %s, %s) is %v", sig, impl.TermText(sig, a), impl.TermText(sig, b), is)
		}
		checkMatchArgs(t, "Unifies", s, sig, x, a, y, b)
	}
	checkUnifyAll(t, sig, []impl.Term{a}, []impl.Term{b}, want, wantHow)
}

func checkUnifyAll(t *testing.T, sig []impl.Sym, a []impl.Term, b []impl.Term, want [][]impl.Bind, wantHow int) {
	t.Helper()
	s, xs, ys := withRoom(sig, spareSym), roomyTerms(a), roomyTerms(b)
	for range 2 {
		got, how := impl.UnifyAll(s, xs, ys)
		if !sameWays(got, want) || how != wantHow {
			t.Errorf("UnifyAll(%v, %v, %v) is %q %d, not %q %d", sig, a, b, wayTexts(sig, got), how, wayTexts(sig, want), wantHow)
			return
		}
		checkOwnWays(t, "UnifyAll", got, want)
		checkRoom(t, "UnifyAll, its answer written over", s, sig, spareSym)
		checkTermsRoom(t, "UnifyAll, its answer written over", xs, a)
		checkTermsRoom(t, "UnifyAll, its answer written over", ys, b)
	}
}

func checkSolved(t *testing.T, sig []impl.Sym, binds []impl.Bind, a impl.Term, b impl.Term, want bool) {
	t.Helper()
	s, u, x, y := withRoom(sig, spareSym), roomyBinds(binds), roomyTerm(a), roomyTerm(b)
	for range 2 {
		if got := impl.Solved(s, u, x, y); got != want {
			t.Errorf("Solved(%v, %v, %v, %v) is %v", sig, binds, a, b, got)
		}
		checkBindsRoom(t, "Solved", u, binds)
		checkMatchArgs(t, "Solved", s, sig, x, a, y, b)
	}
}

// checkUnifyModel holds the answer against the document's sentence, and tells how many there are (-1: it is refused).
func checkUnifyModel(t *testing.T, sig []impl.Sym, a impl.Term, b impl.Term) int {
	t.Helper()
	want, how := isUnify(sig, a, b)
	checkUnify(t, sig, a, b, want, how)
	if how != 0 {
		return -1
	}
	return len(want)
}

// checkAllModel is checkUnifyModel of several equations.
func checkAllModel(t *testing.T, sig []impl.Sym, a []impl.Term, b []impl.Term) int {
	t.Helper()
	want, how := isUnifyAll(sig, a, b)
	checkUnifyAll(t, sig, a, b, want, how)
	if how != 0 {
		return -1
	}
	return len(want)
}

// checkFuel: it is not solved, as it takes too much, though both are right.
func checkFuel(t *testing.T, sig []impl.Sym, a impl.Term, b impl.Term) {
	t.Helper()
	if _, how := isUnify(sig, a, b); how != 2 {
		t.Errorf("the document's sentence tells %d of %s and %s", how, impl.TermText(sig, a), impl.TermText(sig, b))
	}
	checkUnify(t, sig, a, b, nil, 2)
}
