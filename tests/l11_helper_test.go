package tests

import (
	"reflect"
	"slices"
	"strings"
	"testing"

	"loop.example/g00461/impl"
)

var spareLit = lit(true, spareTerm, spareTerm)

func clause(lits ...impl.Lit) impl.Clause { return impl.Clause{Lits: lits} }

// roomyClause is c made anew, with marked room behind its Lits and behind all Kids.
func roomyClause(c impl.Clause) impl.Clause {
	lits := make([]impl.Lit, len(c.Lits))
	for i, l := range c.Lits {
		lits[i] = roomyLit(l)
	}
	return clause(withRoom(lits, spareLit)...)
}

// checkClauseRoom holds what roomyClause made of want against want.
func checkClauseRoom(t *testing.T, what string, got impl.Clause, want impl.Clause) {
	t.Helper()
	if len(got.Lits) != len(want.Lits) {
		t.Errorf("%s: the argument became %v, it was %v", what, got, want)
		return
	}
	for i, l := range want.Lits {
		checkLitRoom(t, what, got.Lits[i], l)
	}
	for _, l := range got.Lits[len(got.Lits):cap(got.Lits)] {
		if !reflect.DeepEqual(l, spareLit) {
			t.Errorf("%s: %v was written into the spare room behind %v", what, l, want)
		}
	}
}

// sameClause does not ask the program.
func sameClause(a impl.Clause, b impl.Clause) bool {
	return slices.EqualFunc(a.Lits, b.Lits, sameLit)
}

// isClauseMade is the document's sentence on ClauseMake, word by word: each goes ahead of the first one that it is before, but for what is there.
func isClauseMade(s []impl.Sym, list []impl.Lit) impl.Clause {
	var out []impl.Lit
	for _, l := range list {
		l = isMade(s, l.Pos, l.L, l.R)
		if slices.ContainsFunc(out, func(x impl.Lit) bool { return sameLit(x, l) }) {
			continue
		}
		i := slices.IndexFunc(out, func(x impl.Lit) bool { return isLitBefore(l, x) })
		if i < 0 {
			i = len(out)
		}
		out = slices.Insert(out, i, l)
	}
	return clause(out...)
}

// isClauseOk is the document's sentence on ClauseOk, word by word.
func isClauseOk(s []impl.Sym, c impl.Clause) bool {
	for i, l := range c.Lits {
		if !isLitOk(s, l) || i > 0 && !isLitBefore(c.Lits[i-1], l) {
			return false
		}
	}
	return len(c.Lits) <= 8
}

// isClauseApplied is the document's sentence on ClauseApply, word by word.
func isClauseApplied(s []impl.Sym, u []impl.Bind, c impl.Clause) impl.Clause {
	var lits []impl.Lit
	for _, l := range c.Lits {
		lits = append(lits, isLitApplied(s, u, l))
	}
	return isClauseMade(s, lits)
}

func sidesOf(c impl.Clause) []impl.Term {
	var out []impl.Term
	for _, l := range c.Lits {
		out = append(out, l.L, l.R)
	}
	return out
}

func isClauseVars(c impl.Clause) []int { return variablesOf(sidesOf(c)) }

// withNumbers is t with number of the V of each variable, and as it was otherwise.
func withNumbers(t impl.Term, number func(v int) int) impl.Term {
	out := impl.Term{F: t.F, V: t.V}
	if t.F == -1 {
		out.V = number(t.V)
	}
	for _, kid := range t.Kids {
		out.Kids = append(out.Kids, withNumbers(kid, number))
	}
	return out
}

func clauseWithNumbers(c impl.Clause, number func(v int) int) impl.Clause {
	var out []impl.Lit
	for _, l := range c.Lits {
		out = append(out, lit(l.Pos, withNumbers(l.L, number), withNumbers(l.R, number)))
	}
	return clause(out...)
}

// isShifted is the document's sentence on Shift, word by word.
func isShifted(c impl.Clause, n int) impl.Clause {
	return clauseWithNumbers(c, func(v int) int { return v + n })
}

// isTidied is the document's sentence on Tidy, word by word: ClauseMake, and then the numbers.
func isTidied(s []impl.Sym, c impl.Clause) impl.Clause {
	c = isClauseMade(s, c.Lits)
	vars := isClauseVars(c)
	return clauseWithNumbers(c, func(v int) int { return slices.Index(vars, v) })
}

// isClauseText is the document's sentence on ClauseText, word by word.
func isClauseText(s []impl.Sym, c impl.Clause) string {
	if len(c.Lits) == 0 {
		return "false"
	}
	text := ""
	for _, l := range c.Lits {
		text += " | " + isLitText(s, l)
	}
	return strings.TrimPrefix(text, " | ")
}

// checkClauseAnswer writes over one Lit of the answer after the other, as each must stand in memory of its own; nothing stands behind the last one that shares any.
func checkClauseAnswer(t *testing.T, what string, got impl.Clause, want impl.Clause) {
	t.Helper()
	if !sameClause(got, want) {
		t.Errorf("%s is %v, not %v", what, got, want)
		return
	}
	checkOwnLists(t, what, fn(0, sidesOf(got)...))
	room := got.Lits[:cap(got.Lits)]
	for _, l := range room[len(got.Lits):] {
		if !sameLit(l, impl.Lit{}) {
			t.Errorf("%s: %v stands behind %v", what, l, want)
		}
	}
	for i, l := range got.Lits {
		checkLitAnswer(t, what, l, want.Lits[i])
	}
	for i := range room {
		room[i] = lit(true, fn(77777), fn(77777))
	}
}

func checkClauseMake(t *testing.T, sig []impl.Sym, list []impl.Lit, want impl.Clause) {
	t.Helper()
	s, c := withRoom(sig, spareSym), roomyClause(clause(list...))
	for range 2 {
		checkClauseAnswer(t, "ClauseMake", impl.ClauseMake(s, c.Lits), want)
		checkRoom(t, "ClauseMake", s, sig, spareSym)
		checkClauseRoom(t, "ClauseMake, its answer written over", c, clause(list...))
	}
}

func checkClauseOk(t *testing.T, sig []impl.Sym, c impl.Clause, want bool) {
	t.Helper()
	s, x := withRoom(sig, spareSym), roomyClause(c)
	for range 2 {
		if got := impl.ClauseOk(s, x); got != want {
			t.Errorf("ClauseOk(%v, %v) is %v", sig, c, got)
		}
	}
	checkRoom(t, "ClauseOk", s, sig, spareSym)
	checkClauseRoom(t, "ClauseOk", x, c)
}

func checkClauseSame(t *testing.T, a impl.Clause, b impl.Clause, want bool) {
	t.Helper()
	x, y := roomyClause(a), roomyClause(b)
	for range 2 {
		if impl.ClauseSame(x, y) != want || impl.ClauseSame(y, x) != want {
			t.Errorf("ClauseSame(%v, %v) is not %v", a, b, want)
		}
	}
	checkClauseRoom(t, "ClauseSame", x, a)
	checkClauseRoom(t, "ClauseSame", y, b)
}

func checkClauseApply(t *testing.T, sig []impl.Sym, binds []impl.Bind, c impl.Clause, want impl.Clause) {
	t.Helper()
	s, u, x := withRoom(sig, spareSym), roomyBinds(binds), roomyClause(c)
	for range 2 {
		checkClauseAnswer(t, "ClauseApply", impl.ClauseApply(s, u, x), want)
		checkRoom(t, "ClauseApply", s, sig, spareSym)
		checkBindsRoom(t, "ClauseApply, its answer written over", u, binds)
		checkClauseRoom(t, "ClauseApply, its answer written over", x, c)
	}
}

func checkClauseVars(t *testing.T, c impl.Clause, want []int) {
	t.Helper()
	x := roomyClause(c)
	for range 2 {
		got := impl.ClauseVars(x)
		if !slices.Equal(got, want) {
			t.Errorf("ClauseVars(%v) is %v, not %v", c, got, want)
		}
		room := got[:cap(got)]
		for i := range room {
			room[i] = 77777
		}
	}
	checkClauseRoom(t, "ClauseVars", x, c)
}

func checkShift(t *testing.T, c impl.Clause, n int, want impl.Clause) {
	t.Helper()
	x := roomyClause(c)
	for range 2 {
		checkClauseAnswer(t, "Shift", impl.Shift(x, n), want)
		checkClauseRoom(t, "Shift, its answer written over", x, c)
	}
}

func checkTidy(t *testing.T, sig []impl.Sym, c impl.Clause, want impl.Clause) {
	t.Helper()
	s, x := withRoom(sig, spareSym), roomyClause(c)
	for range 2 {
		checkClauseAnswer(t, "Tidy", impl.Tidy(s, x), want)
		checkRoom(t, "Tidy", s, sig, spareSym)
		checkClauseRoom(t, "Tidy, its answer written over", x, c)
	}
}

func checkClauseText(t *testing.T, sig []impl.Sym, c impl.Clause, want string) {
	t.Helper()
	s, x := withRoom(sig, spareSym), roomyClause(c)
	for range 2 {
		if got := impl.ClauseText(s, x); got != want {
			t.Errorf("ClauseText(%v, %v) is %q, not %q", sig, c, got, want)
		}
	}
	checkRoom(t, "ClauseText", s, sig, spareSym)
	checkClauseRoom(t, "ClauseText", x, c)
}

// litsOf are n Lits in order, no two the same, each right.
func litsOf(n int) []impl.Lit {
	var out []impl.Lit
	for i := range n {
		out = append(out, lit(i >= n/2, deepTerm(3, i+1, vr(0)), vr(n-i)))
	}
	return out
}

// someClauses are of no Lit and of more, right ones and wrong ones, in whichever order, with Lits that are there twice, either way round.
func someClauses() []impl.Clause {
	out := []impl.Clause{{}, clause([]impl.Lit{}...), clause(litsOf(8)...), clause(litsOf(9)...)}
	lits := append(someLits(), manyLits()...)
	for i, l := range lits {
		m, n := lits[(i*7+3)%len(lits)], lits[(i*29+11)%len(lits)]
		out = append(out, clause(l), clause(l, m), clause(n, l, l), clause(l, m, lit(l.Pos, l.R, l.L), n), clause(m, n, l, m, lit(!m.Pos, m.L, m.R), n, l))
	}
	return out
}

// manyLits are of the terms of orderTerms, and of variables in no row.
func manyLits() []impl.Lit {
	var out []impl.Lit
	terms := orderTerms()
	for i, x := range terms {
		y := terms[(i*13+5)%len(terms)]
		number := func(v int) int { return 40*v + i%7 }
		out = append(out, lit(i%2 == 0, x, y), lit(i%2 == 1, withNumbers(x, number), withNumbers(y, number)))
	}
	return out
}

// rightClauses are some that are ClauseOk at orderSig, of as many Lits as there may be.
func rightClauses() []impl.Clause {
	s := orderSig()
	var out []impl.Clause
	for _, c := range someClauses() {
		if c = isClauseMade(s, c.Lits); isClauseOk(s, c) {
			out = append(out, c)
		}
	}
	return append(out, isClauseMade(s, manyLits()[:8]), isClauseMade(s, manyLits()[20:28]))
}

// permuted are all orders of list.
func permuted(list []impl.Lit) [][]impl.Lit {
	if len(list) == 0 {
		return [][]impl.Lit{nil}
	}
	var out [][]impl.Lit
	for _, rest := range permuted(list[1:]) {
		for i := range len(rest) + 1 {
			out = append(out, slices.Insert(slices.Clone(rest), i, list[0]))
		}
	}
	return out
}
