package tests

import (
	"testing"

	"loop.example/g00461/impl"
)

func lit(pos bool, l impl.Term, r impl.Term) impl.Lit { return impl.Lit{Pos: pos, L: l, R: r} }

func roomyLit(l impl.Lit) impl.Lit { return lit(l.Pos, roomyTerm(l.L), roomyTerm(l.R)) }

// checkLitRoom holds what roomyLit made of want against want.
func checkLitRoom(t *testing.T, what string, got impl.Lit, want impl.Lit) {
	t.Helper()
	if got.Pos != want.Pos {
		t.Errorf("%s: the argument became %v, it was %v", what, got, want)
	}
	checkTermRoom(t, what, got.L, want.L)
	checkTermRoom(t, what, got.R, want.R)
}

// sameLit does not ask the program.
func sameLit(a impl.Lit, b impl.Lit) bool {
	return a.Pos == b.Pos && sameTerm(a.L, b.L) && sameTerm(a.R, b.R)
}

// isMade is the document's sentence on LitMake, word by word.
func isMade(s []impl.Sym, pos bool, a impl.Term, b impl.Term) impl.Lit {
	a, b = oneForm(s, a), oneForm(s, b)
	if isBefore(a, b) {
		return lit(pos, b, a)
	}
	return lit(pos, a, b)
}

// isLitOk is the document's sentence on LitOk, word by word.
func isLitOk(s []impl.Sym, l impl.Lit) bool {
	return isOk(s, l.L) && isOk(s, l.R) && !isBefore(l.L, l.R)
}

// isLitBefore is the document's sentence on LitBefore, word by word.
func isLitBefore(a impl.Lit, b impl.Lit) bool {
	if a.Pos != b.Pos {
		return !a.Pos
	}
	if !sameTerm(a.L, b.L) {
		return isBefore(a.L, b.L)
	}
	return isBefore(a.R, b.R)
}

// isLitApplied is the document's sentence on LitApply, word by word.
func isLitApplied(s []impl.Sym, u []impl.Bind, l impl.Lit) impl.Lit {
	return isMade(s, l.Pos, isApplied(s, u, l.L), isApplied(s, u, l.R))
}

// isLitText is the document's sentence on LitText, word by word.
func isLitText(s []impl.Sym, l impl.Lit) string {
	if l.Pos {
		return impl.TermText(s, l.L) + " = " + impl.TermText(s, l.R)
	}
	return impl.TermText(s, l.L) + " != " + impl.TermText(s, l.R)
}

// checkLitAnswer writes over one side of the answer after the other, as each must stand in memory of its own.
func checkLitAnswer(t *testing.T, what string, got impl.Lit, want impl.Lit) {
	t.Helper()
	if !sameLit(got, want) {
		t.Errorf("%s is %v, not %v", what, got, want)
		return
	}
	checkOwnLists(t, what, fn(0, got.L, got.R))
	overwrite(got.L)
	if !sameTerm(got.R, want.R) {
		t.Errorf("%s: its sides share memory", what)
	}
	overwrite(got.R)
}

func checkLitMake(t *testing.T, sig []impl.Sym, pos bool, a impl.Term, b impl.Term, want impl.Lit) {
	t.Helper()
	s, x, y := withRoom(sig, spareSym), roomyTerm(a), roomyTerm(b)
	for range 2 {
		checkLitAnswer(t, "LitMake", impl.LitMake(s, pos, x, y), want)
		checkMatchArgs(t, "LitMake, its answer written over", s, sig, x, a, y, b)
	}
}

// checkOneLit: of both signs, a and b make these sides, either way round.
func checkOneLit(t *testing.T, sig []impl.Sym, a impl.Term, b impl.Term, wantL impl.Term, wantR impl.Term) {
	t.Helper()
	for _, pos := range []bool{false, true} {
		checkLitMake(t, sig, pos, a, b, lit(pos, wantL, wantR))
		checkLitMake(t, sig, pos, b, a, lit(pos, wantL, wantR))
	}
}

// checkLitOk asks for both signs, as the sign makes no Lit right or wrong.
func checkLitOk(t *testing.T, sig []impl.Sym, l impl.Term, r impl.Term, want bool) {
	t.Helper()
	for _, pos := range []bool{false, true} {
		s, x := withRoom(sig, spareSym), roomyLit(lit(pos, l, r))
		for range 2 {
			if got := impl.LitOk(s, x); got != want {
				t.Errorf("LitOk(%v, %v) is %v", sig, lit(pos, l, r), got)
			}
		}
		checkRoom(t, "LitOk", s, sig, spareSym)
		checkLitRoom(t, "LitOk", x, lit(pos, l, r))
	}
}

func checkLits(t *testing.T, a impl.Lit, b impl.Lit, same bool, before bool) {
	t.Helper()
	x, y := roomyLit(a), roomyLit(b)
	for range 2 {
		if got := impl.LitSame(x, y); got != same {
			t.Errorf("LitSame(%v, %v) is %v", a, b, got)
		}
		if got := impl.LitBefore(x, y); got != before {
			t.Errorf("LitBefore(%v, %v) is %v", a, b, got)
		}
	}
	checkLitRoom(t, "LitSame and LitBefore", x, a)
	checkLitRoom(t, "LitSame and LitBefore", y, b)
}

// checkLitsInTurn: each of list is ahead of all that follow.
func checkLitsInTurn(t *testing.T, list []impl.Lit) {
	t.Helper()
	for i, a := range list {
		for k, b := range list {
			checkLits(t, a, b, i == k, i < k)
		}
	}
}

func checkLitApply(t *testing.T, sig []impl.Sym, binds []impl.Bind, l impl.Lit, want impl.Lit) {
	t.Helper()
	s, u, x := withRoom(sig, spareSym), roomyBinds(binds), roomyLit(l)
	for range 2 {
		checkLitAnswer(t, "LitApply", impl.LitApply(s, u, x), want)
		checkRoom(t, "LitApply", s, sig, spareSym)
		checkBindsRoom(t, "LitApply, its answer written over", u, binds)
		checkLitRoom(t, "LitApply, its answer written over", x, l)
	}
}

func checkLitText(t *testing.T, sig []impl.Sym, l impl.Lit, want string) {
	t.Helper()
	s, x := withRoom(sig, spareSym), roomyLit(l)
	for range 2 {
		if got := impl.LitText(s, x); got != want {
			t.Errorf("LitText(%v, %v) is %q, not %q", sig, l, got, want)
		}
	}
	checkRoom(t, "LitText", s, sig, spareSym)
	checkLitRoom(t, "LitText", x, l)
}

// litTerms are some of all terms that chapter 4 is asked with, a different choice for each n.
func litTerms(n int, each int) []impl.Term {
	var out []impl.Term
	all := formTerms()
	for i := n % each; i < len(all); i += each {
		out = append(out, all[i])
	}
	return out
}

// someLits are of both signs, either side first, right ones and wrong ones.
func someLits() []impl.Lit {
	a, b := fn(1), fn(2)
	sides := []impl.Term{vr(0), vr(99), vr(100), fn(-1, a), fn(0), a, b, withV(b, 1), fn(3, vr(0)), fn(3, a), fn(3, a, b), fn(5), fn(5, a, b), fn(5, b, a), fn(5, a, fn(5, a, b)), fn(5, a, a, b), fn(6, a, fn(5, vr(0), b)), fn(9, a), fn(-2)}
	var out []impl.Lit
	for _, l := range sides {
		for _, r := range sides {
			out = append(out, lit(false, l, r), lit(true, l, r))
		}
	}
	return out
}
