package tests

import (
	"reflect"
	"testing"

	"loop.example/g00461/impl"
)

var spareTerm = impl.Term{F: spareMark, V: spareMark}

func vr(v int) impl.Term { return impl.Term{F: -1, V: v} }

func fn(f int, kids ...impl.Term) impl.Term { return impl.Term{F: f, Kids: kids} }

// withV is t with another V.
func withV(t impl.Term, v int) impl.Term {
	t.V = v
	return t
}

// roomyTerm is t made anew, with marked room behind the Kids of each term within it.
func roomyTerm(t impl.Term) impl.Term {
	kids := make([]impl.Term, len(t.Kids))
	for i, kid := range t.Kids {
		kids[i] = roomyTerm(kid)
	}
	return impl.Term{F: t.F, V: t.V, Kids: withRoom(kids, spareTerm)}
}

// sameTerm does not ask the program.
func sameTerm(a impl.Term, b impl.Term) bool {
	if a.F != b.F || a.V != b.V || len(a.Kids) != len(b.Kids) {
		return false
	}
	for i := range a.Kids {
		if !sameTerm(a.Kids[i], b.Kids[i]) {
			return false
		}
	}
	return true
}

// checkTermRoom holds what roomyTerm made of want against want.
func checkTermRoom(t *testing.T, what string, got impl.Term, want impl.Term) {
	t.Helper()
	if got.F != want.F || got.V != want.V || len(got.Kids) != len(want.Kids) {
		t.Errorf("%s: the argument became %v, it was %v", what, got, want)
		return
	}
	for _, x := range got.Kids[len(got.Kids):cap(got.Kids)] {
		if !reflect.DeepEqual(x, spareTerm) {
			t.Errorf("%s: %v was written into the spare room behind %v", what, x, want.Kids)
		}
	}
	for i := range want.Kids {
		checkTermRoom(t, what, got.Kids[i], want.Kids[i])
	}
}

// overwrite marks all memory that t reaches through its Kids, as an argument that shares some would change, too.
func overwrite(t impl.Term) {
	all := t.Kids[:cap(t.Kids)]
	for i := range all {
		overwrite(all[i])
		all[i] = impl.Term{F: 77777, V: 77777}
	}
}

// deepTerm is deep functions f of one Kid each around a last one.
func deepTerm(f int, deep int, last impl.Term) impl.Term {
	for range deep {
		last = fn(f, last)
	}
	return last
}
