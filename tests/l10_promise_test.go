package tests

import (
	"slices"
	"testing"

	"loop.example/g00461/impl"
)

// checkEitherWayRound: a and b are one Lit of each sign, whichever is given first, and its sides are theirs in one form.
func checkEitherWayRound(t *testing.T, s []impl.Sym, a impl.Term, b impl.Term) {
	t.Helper()
	right := isOk(s, oneForm(s, a)) && isOk(s, oneForm(s, b))
	for _, pos := range []bool{false, true} {
		l, m := impl.LitMake(s, pos, a, b), impl.LitMake(s, pos, b, a)
		if !sameLit(l, m) || !impl.LitSame(l, m) || impl.LitBefore(l, m) || impl.LitBefore(m, l) {
			t.Errorf("%v and %v are %v, the other way round %v", a, b, l, m)
		}
		if impl.LitText(s, l) != impl.LitText(s, m) {
			t.Errorf("%v and %v are %q, the other way round %q", a, b, impl.LitText(s, l), impl.LitText(s, m))
		}
		if l.Pos != pos || isBefore(l.L, l.R) || !samePair(l.L, l.R, oneForm(s, a), oneForm(s, b)) {
			t.Errorf("%v and %v are %v", a, b, l)
		}
		if impl.LitOk(s, l) != right || impl.LitOk(s, m) != right {
			t.Errorf("%v of %v and %v is right, or not, against its terms", l, a, b)
		}
		if again := impl.LitMake(s, pos, l.R, l.L); !impl.LitSame(again, l) {
			t.Errorf("%v, made of its sides the other way round, is %v", l, again)
		}
		if again := impl.LitApply(s, nil, lit(pos, l.R, l.L)); !impl.LitSame(again, l) {
			t.Errorf("%v, the other way round, with nothing put, is %v", l, again)
		}
	}
	not, is := impl.LitMake(s, false, a, b), impl.LitMake(s, true, b, a)
	if impl.LitSame(not, is) || !impl.LitBefore(not, is) || impl.LitBefore(is, not) {
		t.Errorf("%v is not ahead of %v", not, is)
	}
}

// samePair: they are the same two terms, in whichever order.
func samePair(a impl.Term, b impl.Term, c impl.Term, d impl.Term) bool {
	return sameTerm(a, c) && sameTerm(b, d) || sameTerm(a, d) && sameTerm(b, c)
}

// TestEitherWayRoundItIsOne is promise 10: of terms that are TermOk, and of others.
func TestEitherWayRoundItIsOne(t *testing.T) {
	all := orderTerms()
	for i, a := range all {
		for k := i % 3; k < len(all); k += 3 {
			checkEitherWayRound(t, orderSig(), a, all[k])
		}
		checkEitherWayRound(t, orderSig(), a, a)
	}
	for what, sig := range formSigs() {
		t.Run(what, func(t *testing.T) {
			bs := litTerms(9, 83)
			for i, a := range litTerms(8, 47) {
				for k := i % 9; k < len(bs); k += 9 {
					checkEitherWayRound(t, sig, a, bs[k])
				}
			}
		})
	}
}

// TestAlikeInOneFormIsOne: brackets and order of what is blind make no other Lit.
func TestAlikeInOneFormIsOne(t *testing.T) {
	s, a, b, x := orderSig(), fn(1), fn(2), vr(0)
	forms := []impl.Term{fn(5, a, b, b, x), fn(5, x, b, b, a), fn(5, fn(5, a, b), fn(5, x, b)), fn(5, b, fn(5, x, fn(5, b, a))), fn(5, fn(5, fn(5, b, a), b), x)}
	for _, y := range []impl.Term{a, x, vr(99), fn(4, a, x), fn(6, b, fn(5, b, a)), fn(5, fn(5, a), fn(5, b, x)), forms[2]} {
		want := impl.LitMake(s, true, forms[0], y)
		for _, z := range forms {
			if l, m := impl.LitMake(s, true, z, y), impl.LitMake(s, true, y, z); !impl.LitSame(l, want) || !impl.LitSame(m, want) {
				t.Errorf("%v and %v are %v, or %v, not %v", z, y, l, m, want)
			}
		}
	}
}

// checkPutEitherWayRound: with u put, a and b are one Lit, whichever side was first, and whether they were in one form. It tells that Lit behind that.
func checkPutEitherWayRound(t *testing.T, s []impl.Sym, u []impl.Bind, pos bool, a impl.Term, b impl.Term) impl.Lit {
	t.Helper()
	l := impl.LitMake(s, pos, a, b)
	want := impl.LitApply(s, u, l)
	for _, m := range []impl.Lit{lit(pos, l.R, l.L), lit(pos, a, b), lit(pos, b, a)} {
		if got := impl.LitApply(s, u, m); !sameLit(got, want) || !impl.LitSame(got, want) {
			t.Errorf("%v put in %v is %v, in %v %v", u, l, want, m, got)
		}
	}
	return want
}

// TestPutEitherWayRoundItIsOne: what is put turns some, and makes both sides of others alike.
func TestPutEitherWayRoundItIsOne(t *testing.T) {
	s, terms := orderSig(), append(orderTerms(), litTerms(1, 71)...)
	turned, alikeOnes := 0, 0
	for i, u := range append(manySubs(), oddSubs()...) {
		for k := i % 5; k < len(terms); k += 5 {
			a := terms[k]
			for _, b := range []impl.Term{terms[(k*17+i)%len(terms)], isApplied(s, u, a)} {
				l := impl.LitMake(s, k%2 == 0, a, b)
				put := checkPutEitherWayRound(t, s, u, l.Pos, a, b)
				if isBefore(isApplied(s, u, l.L), isApplied(s, u, l.R)) {
					turned++
				}
				if !sameTerm(l.L, l.R) && sameTerm(put.L, put.R) {
					alikeOnes++
				}
			}
		}
	}
	if turned < 100 || alikeOnes < 100 {
		t.Errorf("only %d were turned, and %d made alike", turned, alikeOnes)
	}
}

// TestUnlikeEquationsAreNotOne: two Lits are the same just where their signs are and their sides are the same two terms.
func TestUnlikeEquationsAreNotOne(t *testing.T) {
	s := orderSig()
	few := []impl.Term{vr(0), vr(1), fn(1), fn(2), fn(3, vr(0)), fn(3, vr(1)), fn(5, fn(1), fn(2)), fn(5, fn(1), fn(1)), fn(6, fn(1), fn(2))}
	type made struct {
		a, b impl.Term
		l    impl.Lit
	}
	var all []made
	for _, a := range few {
		for _, b := range few {
			all = append(all, made{a, b, impl.LitMake(s, true, a, b)}, made{a, b, impl.LitMake(s, false, a, b)})
		}
	}
	for _, x := range all {
		for _, y := range all {
			want := x.l.Pos == y.l.Pos && samePair(x.a, x.b, y.a, y.b)
			if impl.LitSame(x.l, y.l) != want {
				t.Errorf("%v and %v are the same: %v", x, y, !want)
			}
			if want == (impl.LitBefore(x.l, y.l) || impl.LitBefore(y.l, x.l)) || impl.LitBefore(x.l, y.l) && impl.LitBefore(y.l, x.l) {
				t.Errorf("%v and %v: not one of the same, ahead and behind", x, y)
			}
		}
	}
}

// TestLitsHaveOneOrder: put in order, each is ahead of all that follow, but for those that are the same.
func TestLitsHaveOneOrder(t *testing.T) {
	lits := someLits()
	slices.SortFunc(lits, func(a impl.Lit, b impl.Lit) int {
		switch {
		case impl.LitBefore(a, b):
			return -1
		case impl.LitBefore(b, a):
			return 1
		default:
			return 0
		}
	})
	for i, a := range lits {
		if i > 0 && lits[i-1].Pos && !a.Pos {
			t.Errorf("%v, which does not hold, stands behind %v", a, lits[i-1])
		}
		for _, b := range lits[:i] {
			if impl.LitBefore(a, b) || impl.LitBefore(b, a) == impl.LitSame(a, b) {
				t.Errorf("%v stands behind %v", a, b)
			}
		}
	}
}
