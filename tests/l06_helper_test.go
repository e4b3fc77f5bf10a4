package tests

import (
	"fmt"
	"maps"
	"math"
	"reflect"
	"slices"
	"strings"
	"testing"

	"loop.example/g00461/impl"
)

var spareBind = impl.Bind{V: spareMark, T: impl.Term{F: spareMark, V: spareMark}}

// puts are Binds of the terms for 0, 1 and so on.
func puts(terms ...impl.Term) []impl.Bind {
	var out []impl.Bind
	for v, x := range terms {
		out = append(out, impl.Bind{V: v, T: x})
	}
	return out
}

func one(v int, t impl.Term) impl.Bind { return impl.Bind{V: v, T: t} }

func bound(binds ...impl.Bind) []impl.Bind { return binds }

// roomyBinds is u made anew, with marked room behind it and behind all Kids.
func roomyBinds(u []impl.Bind) []impl.Bind {
	out := make([]impl.Bind, len(u))
	for i, b := range u {
		out[i] = one(b.V, roomyTerm(b.T))
	}
	return withRoom(out, spareBind)
}

// checkBindsRoom holds what roomyBinds made of want against want.
func checkBindsRoom(t *testing.T, what string, got []impl.Bind, want []impl.Bind) {
	t.Helper()
	if len(got) != len(want) {
		t.Errorf("%s: the argument became %v, it was %v", what, got, want)
		return
	}
	for i := range want {
		if got[i].V != want[i].V {
			t.Errorf("%s: the argument became %v, it was %v", what, got, want)
		}
		checkTermRoom(t, what, got[i].T, want[i].T)
	}
	for _, b := range got[len(got):cap(got)] {
		if !reflect.DeepEqual(b, spareBind) {
			t.Errorf("%s: %v was written into the spare room behind %v", what, b, want)
		}
	}
}

func sameBinds(a []impl.Bind, b []impl.Bind) bool {
	if len(a) != len(b) {
		return false
	}
	for i := range a {
		if a[i].V != b[i].V || !sameTerm(a[i].T, b[i].T) {
			return false
		}
	}
	return true
}

// isSubOk is the document's sentence on SubOk, word by word.
func isSubOk(s []impl.Sym, u []impl.Bind) bool {
	for i, b := range u {
		if i > 0 && u[i-1].V >= b.V || b.V < 0 || b.V > 99 || !isOk(s, b.T) || sameTerm(b.T, vr(b.V)) {
			return false
		}
		for _, c := range u {
			if howOften(b.T, c.V) > 0 {
				return false
			}
		}
	}
	return true
}

// found is the document's sentence on Look, word by word.
func found(u []impl.Bind, v int) impl.Term {
	for _, b := range u {
		if b.V == v {
			return b.T
		}
	}
	return vr(v)
}

func inPlace(u []impl.Bind, t impl.Term) impl.Term {
	if t.F == -1 && len(t.Kids) == 0 {
		return found(u, t.V)
	}
	kids := make([]impl.Term, len(t.Kids))
	for i, kid := range t.Kids {
		kids[i] = inPlace(u, kid)
	}
	return impl.Term{F: t.F, V: t.V, Kids: kids}
}

// isApplied is the document's sentence on Apply, word by word.
func isApplied(s []impl.Sym, u []impl.Bind, t impl.Term) impl.Term { return oneForm(s, inPlace(u, t)) }

// isAdded is the document's sentence on SubAdd, word by word.
func isAdded(s []impl.Sym, u []impl.Bind, v int, t impl.Term) []impl.Bind {
	at, there := 0, false
	for i := len(u) - 1; i >= 0; i-- {
		if u[i].V == v {
			at, there = i, true
		}
	}
	for !there && at < len(u) && u[at].V < v {
		at++
	}
	var out []impl.Bind
	for i, b := range u {
		if i == at {
			out = append(out, one(v, t))
		}
		if i != at || !there {
			out = append(out, one(b.V, isApplied(s, bound(one(v, t)), b.T)))
		}
	}
	if at == len(u) {
		out = append(out, one(v, t))
	}
	return out
}

// isSubText is the document's sentence on SubText, word by word.
func isSubText(s []impl.Sym, u []impl.Bind) string {
	var words []string
	for _, b := range u {
		words = append(words, fmt.Sprintf("X%d=%s", b.V, impl.TermText(s, b.T)))
	}
	return strings.Join(words, string(rune(59)))
}

func checkSubOk(t *testing.T, sig []impl.Sym, binds []impl.Bind, want bool) {
	t.Helper()
	s, u := withRoom(sig, spareSym), roomyBinds(binds)
	for range 2 {
		if got := impl.SubOk(s, u); got != want {
			t.Errorf("SubOk(%v, %v) is %v", sig, binds, got)
		}
	}
	checkRoom(t, "SubOk", s, sig, spareSym)
	checkBindsRoom(t, "SubOk", u, binds)
}

func checkLook(t *testing.T, binds []impl.Bind, v int, want impl.Term) {
	t.Helper()
	u := roomyBinds(binds)
	for range 2 {
		got := impl.Look(u, v)
		if !sameTerm(got, want) {
			t.Errorf("Look(%v, %d) is %v, not %v", binds, v, got, want)
		}
		checkOwnLists(t, "Look", got)
		overwrite(got)
		checkBindsRoom(t, "Look, its answer written over", u, binds)
	}
}

func checkApply(t *testing.T, sig []impl.Sym, binds []impl.Bind, term impl.Term, want impl.Term) {
	t.Helper()
	s, u, x := withRoom(sig, spareSym), roomyBinds(binds), roomyTerm(term)
	for range 2 {
		got := impl.Apply(s, u, x)
		if !sameTerm(got, want) {
			t.Errorf("Apply(%v, %v, %v) is %v, not %v", sig, binds, term, got, want)
		}
		checkOwnLists(t, "Apply", got)
		overwrite(got)
		checkRoom(t, "Apply", s, sig, spareSym)
		checkBindsRoom(t, "Apply, its answer written over", u, binds)
		checkTermRoom(t, "Apply, its answer written over", x, term)
	}
}

// checkSubAdd also writes over the terms of the answer, one by one: the others stay as they are.
func checkSubAdd(t *testing.T, sig []impl.Sym, binds []impl.Bind, v int, term impl.Term, want []impl.Bind) {
	t.Helper()
	s, u, x := withRoom(sig, spareSym), roomyBinds(binds), roomyTerm(term)
	for range 2 {
		got := impl.SubAdd(s, u, v, x)
		if !sameBinds(got, want) {
			t.Errorf("SubAdd(%v, %v, %d, %v) is %v, not %v", sig, binds, v, term, got, want)
			return
		}
		var all []impl.Term
		for _, b := range got {
			all = append(all, b.T)
		}
		checkOwnLists(t, "SubAdd", fn(0, all...))
		for i := range got {
			overwrite(got[i].T)
			if !sameBinds(got[i+1:], want[i+1:]) {
				t.Errorf("SubAdd(%v, %d, %v): its terms share memory", binds, v, term)
			}
		}
		room := got[:cap(got)]
		for i := range room {
			room[i] = one(77777, fn(77777))
		}
		checkRoom(t, "SubAdd", s, sig, spareSym)
		checkBindsRoom(t, "SubAdd, its answer written over", u, binds)
		checkTermRoom(t, "SubAdd, its answer written over", x, term)
	}
}

func checkSubText(t *testing.T, sig []impl.Sym, binds []impl.Bind, want string) {
	t.Helper()
	s, u := withRoom(sig, spareSym), roomyBinds(binds)
	for range 2 {
		if got := impl.SubText(s, u); got != want {
			t.Errorf("SubText(%v, %v) is %q, not %q", sig, binds, got, want)
		}
	}
	checkRoom(t, "SubText", s, sig, spareSym)
	checkBindsRoom(t, "SubText", u, binds)
}

// rightSubs are SubOk at orderSig.
func rightSubs() map[string][]impl.Bind {
	a, b := fn(1), fn(2)
	var many []impl.Bind
	for v := range 100 {
		many = append(many, one(v, fn(3, fn(v%3))))
	}
	return map[string][]impl.Bind{
		"nil":                        nil,
		"none":                       {},
		"one":                        puts(a),
		"two":                        puts(a, b),
		"a variable":                 bound(one(1, vr(0))),
		"a variable above":           puts(vr(1)),
		"the last one":               bound(one(99, a)),
		"first and last":             bound(one(0, a), one(99, b)),
		"the last one for the first": puts(vr(99)),
		"one variable for two":       puts(vr(7), vr(7)),
		"others stand between":       bound(one(0, fn(4, vr(1), vr(3))), one(2, fn(5, vr(1), vr(1))), one(4, vr(3))),
		"blind ones":                 puts(fn(5, vr(7), b), fn(6, a, fn(5, a, b))),
		"of 60 parts":                puts(partsOf(60), fn(5, make([]impl.Term, 59)...)),
		"a hundred":                  many,
		"all but one":                append(many[:98:98], one(98, vr(99))),
		"alike ones":                 bound(one(3, fn(3, vr(4))), one(5, fn(3, vr(4)))),
		"tt":                         puts(fn(0), fn(0), fn(0)),
	}
}

// wrongSubs are refused by SubOk at orderSig; their names say why.
func wrongSubs() map[string][]impl.Bind {
	a, b := fn(1), fn(2)
	out := map[string][]impl.Bind{
		"-1":                      bound(one(-1, a)),
		"-1 ahead":                bound(one(-1, a), one(0, b)),
		"100":                     bound(one(100, a)),
		"100 behind":              bound(one(0, a), one(99, b), one(100, a)),
		"the least":               bound(one(math.MinInt, a)),
		"the greatest":            bound(one(math.MaxInt, a)),
		"the least, the greatest": bound(one(math.MinInt, a), one(math.MaxInt, b)),
		"twice":                   bound(one(3, a), one(3, b)),
		"twice alike":             bound(one(3, a), one(3, a)),
		"0 twice":                 bound(one(0, a), one(0, b)),
		"99 twice":                bound(one(1, a), one(99, a), one(99, b)),
		"twice, one between":      bound(one(3, a), one(4, b), one(3, a)),
		"descending":              bound(one(1, a), one(0, b)),
		"descending at the end":   bound(one(0, a), one(5, b), one(4, a)),
		"descending at first":     bound(one(2, a), one(1, b), one(4, a)),
		"itself":                  puts(vr(0)),
		"itself, 99":              bound(one(99, vr(99))),
		"itself behind":           bound(one(0, a), one(5, vr(5))),
		"itself within":           puts(fn(3, vr(0))),
		"itself deep within":      puts(fn(3, fn(5, vr(0), a))),
		"one behind within":       puts(fn(3, vr(1)), a),
		"one ahead within":        puts(a, fn(3, vr(0))),
		"one for the other":       puts(vr(1), a),
		"one ahead for the other": puts(a, vr(0)),
		"each for the other":      puts(vr(1), vr(0)),
		"in a round":              puts(vr(1), vr(2), vr(0)),
		"the last of some within": bound(one(0, fn(5, vr(1), vr(9))), one(3, a), one(9, b)),
		"the first within":        bound(one(0, b), one(3, a), one(9, fn(7, a, b, vr(0)))),
		"a hundred parts":         puts(partsOf(100)),
	}
	for what, x := range wrongTerms() {
		out["of "+what] = puts(x)
		out["ahead of "+what] = puts(a, b, x)
		out["behind "+what] = puts(x, a)
	}
	return out
}

// oddSubs have what no SubOk list has: they are not in order, a V stands there twice, what is put holds a V of the list, or is not in one form.
func oddSubs() [][]impl.Bind {
	a, b := fn(1), fn(2)
	return [][]impl.Bind{
		bound(one(1, a), one(0, b)),
		bound(one(5, a), one(1, b), one(3, vr(1))),
		bound(one(3, a), one(3, b)),
		bound(one(0, vr(1)), one(1, fn(3, vr(0))), one(0, a), one(1, b)),
		puts(vr(0)),
		puts(vr(1), vr(0)),
		puts(fn(3, vr(0)), fn(5, vr(0), vr(1))),
		puts(fn(5, b, a), fn(5, fn(5, b, vr(1)), vr(0))),
		puts(fn(5), fn(5, vr(0))),
		puts(fn(6, fn(6, b, a), fn(5, b, a)), fn(3)),
		puts(fn(-1, vr(0), vr(1)), withV(fn(-1, fn(5, b, vr(1))), 1)),
		puts(fn(9, vr(0)), withV(fn(1), 4), fn(-2, fn(5, vr(1), vr(0)))),
		bound(one(-1, vr(0)), one(100, vr(-1)), one(0, vr(100)), one(math.MaxInt, a), one(math.MinInt, fn(5, b, a))),
	}
}

func allSubs() [][]impl.Bind {
	out := oddSubs()
	for _, subs := range []map[string][]impl.Bind{rightSubs(), wrongSubs()} {
		for _, what := range slices.Sorted(maps.Keys(subs)) {
			out = append(out, subs[what])
		}
	}
	return out
}
