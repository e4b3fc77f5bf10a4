package tests

import (
	"slices"
	"testing"

	"loop.example/g00461/impl"
)

// wayFinder goes the document's way word by word: it counts steps up to a limit, and keeps each way that it meets, as often as it meets it.
type wayFinder struct {
	s     []impl.Sym
	limit int
	steps int
	met   [][]impl.Bind
}

func (w *wayFinder) step() bool {
	w.steps++
	return w.steps <= w.limit
}

func (w *wayFinder) become(u []impl.Bind, p impl.Term, t impl.Term, then func(u []impl.Bind)) {
	if !w.step() {
		return
	}
	i, there := indexOf(u, p.V)
	switch {
	case p.F == -1 && !there:
		then(withBind(u, p.V, t))
	case p.F == -1:
		if sameTerm(u[i].T, t) {
			then(u)
		}
	case p.F != t.F:
	case isAc(w.s, p.F):
		w.left(u, p.F, p.Kids, t.Kids, then)
	default:
		w.each(u, p.Kids, t.Kids, then)
	}
}

func (w *wayFinder) each(u []impl.Bind, ps []impl.Term, ts []impl.Term, then func(u []impl.Bind)) {
	if len(ps) == 0 {
		then(u)
		return
	}
	w.become(u, ps[0], ts[0], func(u []impl.Bind) { w.each(u, ps[1:], ts[1:], then) })
}

func (w *wayFinder) left(u []impl.Bind, f int, ps []impl.Term, ts []impl.Term, then func(u []impl.Bind)) {
	if !w.step() {
		return
	}
	if len(ps) == 0 {
		if len(ts) == 0 {
			then(u)
		}
		return
	}
	i, there := indexOf(u, ps[0].V)
	switch {
	case ps[0].F != -1:
		for k := range ts {
			w.become(u, ps[0], ts[k], func(u []impl.Bind) { w.left(u, f, ps[1:], cutOut(ts, k), then) })
		}
	case there:
		if rest, ok := takenAway(f, ts, u[i].T); ok {
			w.left(u, f, ps[1:], rest, then)
		}
	default:
		for sum := 1; sum < 1<<len(ts); sum++ {
			x, rest := chosen(f, ts, sum)
			w.left(withBind(u, ps[0].V, x), f, ps[1:], rest, then)
		}
	}
}

func withBind(u []impl.Bind, v int, t impl.Term) []impl.Bind {
	out := append(slices.Clone(u), one(v, t))
	slices.SortFunc(out, func(a impl.Bind, b impl.Bind) int { return a.V - b.V })
	return out
}

func cutOut(list []impl.Term, i int) []impl.Term {
	return append(slices.Clone(list[:i]), list[i+1:]...)
}

func takenAway(f int, ts []impl.Term, t impl.Term) ([]impl.Term, bool) {
	wanted := []impl.Term{t}
	if t.F == f {
		wanted = t.Kids
	}
	for _, x := range wanted {
		i := slices.IndexFunc(ts, func(y impl.Term) bool { return sameTerm(x, y) })
		if i < 0 {
			return nil, false
		}
		ts = cutOut(ts, i)
	}
	return ts, true
}

func chosen(f int, ts []impl.Term, sum int) (impl.Term, []impl.Term) {
	var in, out []impl.Term
	for i, x := range ts {
		if sum>>i&1 == 1 {
			in = append(in, x)
		} else {
			out = append(out, x)
		}
	}
	if len(in) == 1 {
		return in[0], out
	}
	return fn(f, in...), out
}

// metWays asks nothing of p and t.
func metWays(s []impl.Sym, p impl.Term, t impl.Term, limit int) ([][]impl.Bind, int) {
	w := &wayFinder{s: s, limit: limit}
	w.become(nil, p, t, func(u []impl.Bind) {
		if w.step() {
			w.met = append(w.met, u)
		}
	})
	return w.met, w.steps
}

func hasWay(list [][]impl.Bind, u []impl.Bind) bool {
	return slices.ContainsFunc(list, func(x []impl.Bind) bool { return sameBinds(x, u) })
}

func onceEachWay(list [][]impl.Bind) [][]impl.Bind {
	var out [][]impl.Bind
	for _, u := range list {
		if !hasWay(out, u) {
			out = append(out, u)
		}
	}
	return out
}

func wideKids(t impl.Term) bool {
	return slices.ContainsFunc(partsList(t), func(x impl.Term) bool { return len(x.Kids) > 12 })
}

// isMatches is the document's sentence on Matches, word by word.
func isMatches(s []impl.Sym, p impl.Term, t impl.Term) ([][]impl.Bind, bool) {
	if !isOk(s, p) || !isOk(s, t) || wideKids(t) {
		return nil, false
	}
	met, steps := metWays(s, p, t, 20000)
	list := onceEachWay(met)
	if steps > 20000 || len(list) > 60 {
		return nil, false
	}
	return list, true
}

func sameWays(a [][]impl.Bind, b [][]impl.Bind) bool { return slices.EqualFunc(a, b, sameBinds) }

func wayTexts(s []impl.Sym, list [][]impl.Bind) []string {
	var out []string
	for _, u := range list {
		out = append(out, isSubText(s, u))
	}
	return out
}

// checkOwnWays writes over one way after the other, with the room behind it: those behind it stay as they are.
func checkOwnWays(t *testing.T, what string, got [][]impl.Bind, want [][]impl.Bind) {
	t.Helper()
	var all []impl.Term
	for _, u := range got {
		for _, b := range u {
			all = append(all, b.T)
		}
	}
	checkOwnLists(t, what, fn(0, all...))
	for i, u := range got {
		markBinds(u)
		if !sameWays(got[i+1:], want[i+1:]) {
			t.Errorf("%s: its ways share memory", what)
		}
	}
	room := got[:cap(got)]
	for i := range room {
		room[i] = bound(one(77777, fn(77777)))
	}
}

func markBinds(u []impl.Bind) {
	for _, b := range u {
		overwrite(b.T)
	}
	room := u[:cap(u)]
	for i := range room {
		room[i] = one(77777, fn(77777))
	}
}

// checkMatches asks all three of chapter 8, each twice.
func checkMatches(t *testing.T, sig []impl.Sym, pattern impl.Term, term impl.Term, want [][]impl.Bind, wantOk bool) {
	t.Helper()
	s, p, x := withRoom(sig, spareSym), roomyTerm(pattern), roomyTerm(term)
	for range 2 {
		got, ok := impl.Matches(s, p, x)
		if !sameWays(got, want) || ok != wantOk {
			t.Errorf("Matches(%v, %v, %v) is %q %v, not %q %v", sig, pattern, term, wayTexts(sig, got), ok, wayTexts(sig, want), wantOk)
			return
		}
		checkOwnWays(t, "Matches", got, want)
		checkMatchArgs(t, "Matches, its answer written over", s, sig, p, pattern, x, term)
	}
	var first []impl.Bind
	if len(want) > 0 {
		first = want[0]
	}
	for range 2 {
		got, ok := impl.MatchOne(s, p, x)
		if !sameBinds(got, first) || ok != (len(want) > 0) {
			t.Errorf("MatchOne(%v, %v, %v) is %v %v, not %v", sig, pattern, term, got, ok, first)
			return
		}
		checkOwnWays(t, "MatchOne", [][]impl.Bind{got}, [][]impl.Bind{first})
		checkMatchArgs(t, "MatchOne, its answer written over", s, sig, p, pattern, x, term)
		if is := impl.Instance(s, p, x); is != ok {
			t.Errorf("Instance(%v, %v, %v) is %v", sig, pattern, term, is)
		}
		checkMatchArgs(t, "Instance", s, sig, p, pattern, x, term)
	}
}

func checkMatchArgs(t *testing.T, what string, s []impl.Sym, sig []impl.Sym, p impl.Term, pattern impl.Term, x impl.Term, term impl.Term) {
	t.Helper()
	checkRoom(t, what, s, sig, spareSym)
	checkTermRoom(t, what, p, pattern)
	checkTermRoom(t, what, x, term)
}

// checkNoMatch: it is refused.
func checkNoMatch(t *testing.T, sig []impl.Sym, pattern impl.Term, term impl.Term) {
	t.Helper()
	checkMatches(t, sig, pattern, term, nil, false)
}

// checkModel holds the answer against the document's sentence, and tells how many ways there are (-1: it is refused).
func checkModel(t *testing.T, sig []impl.Sym, pattern impl.Term, term impl.Term) int {
	t.Helper()
	want, ok := isMatches(sig, pattern, term)
	checkMatches(t, sig, pattern, term, want, ok)
	if !ok {
		return -1
	}
	return len(want)
}

// alike are n times t.
func alike(n int, t impl.Term) []impl.Term { return slices.Repeat([]impl.Term{t}, n) }

// unlike are n terms in their order, no two the same.
func unlike(n int) []impl.Term {
	var out []impl.Term
	for i := range n {
		out = append(out, vr(10+i))
	}
	return out
}
