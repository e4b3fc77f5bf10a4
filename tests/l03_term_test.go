package tests

import (
	"fmt"
	"math"
	"slices"
	"strings"
	"testing"

	"loop.example/g00461/impl"
)

// smallTerms are without Kids, wrong ones among them.
func smallTerms() []impl.Term {
	var out []impl.Term
	for _, f := range []int{math.MinInt, -2, -1, 0, 1, 5, 6, math.MaxInt} {
		for _, v := range []int{math.MinInt, -1, 0, 99, 100, math.MaxInt} {
			out = append(out, withV(fn(f), v))
		}
	}
	return out
}

// someTerms differ from others in F alone, V alone, how many Kids alone, or in a Kid deep within alone; variables with Kids and functions that are none are among them.
func someTerms() []impl.Term {
	out := smallTerms()
	few := []impl.Term{vr(0), vr(1), withV(vr(100), -1), fn(1), withV(fn(1), 3), fn(-2), fn(9)}
	for _, f := range []int{-2, -1, 2, 5, 6} {
		for _, x := range few {
			out = append(out, fn(f, x), withV(fn(f, x), 7), fn(f, x, vr(1)), fn(f, vr(1), x), fn(f, fn(2, fn(3, vr(0), x))), fn(f, fn(2, fn(3, x, vr(0)))))
		}
		out = append(out, fn(f, vr(0), vr(0), vr(0)), fn(f, few...), fn(f, fn(f, fn(f, fn(f)))), fn(f, vr(0), fn(f, vr(0), fn(f, vr(2)))))
	}
	return out
}

// textOfAll tells everything of a term, so that two are alike just where their texts are.
func textOfAll(t impl.Term) string {
	words := []string{fmt.Sprint(t.F), fmt.Sprint(t.V)}
	for _, kid := range t.Kids {
		words = append(words, textOfAll(kid))
	}
	return "<" + strings.Join(words, " ") + ">"
}

// isBefore is the document's sentence on Before, word by word.
func isBefore(a impl.Term, b impl.Term) bool {
	if a.F != b.F {
		return a.F < b.F
	}
	if a.V != b.V {
		return a.V < b.V
	}
	if len(a.Kids) != len(b.Kids) {
		return len(a.Kids) < len(b.Kids)
	}
	for i := range a.Kids {
		if !sameTerm(a.Kids[i], b.Kids[i]) {
			return isBefore(a.Kids[i], b.Kids[i])
		}
	}
	return false
}

func partsList(t impl.Term) []impl.Term {
	out := []impl.Term{t}
	for _, kid := range t.Kids {
		out = append(out, partsList(kid)...)
	}
	return out
}

func TestMaxVar(t *testing.T) {
	if impl.MaxVar != 99 {
		t.Errorf("MaxVar is %d", impl.MaxVar)
	}
}

func checkPair(t *testing.T, a impl.Term, b impl.Term, same bool, before bool) {
	t.Helper()
	x, y := roomyTerm(a), roomyTerm(b)
	for range 2 {
		if got := impl.TermSame(x, y); got != same {
			t.Errorf("TermSame(%v, %v) is %v", a, b, got)
		}
		if got := impl.Before(x, y); got != before {
			t.Errorf("Before(%v, %v) is %v", a, b, got)
		}
	}
	checkTermRoom(t, "TermSame and Before", x, a)
	checkTermRoom(t, "TermSame and Before", y, b)
}

// TestBeforeInTurn has lists of terms in which each is before all that follow.
func TestBeforeInTurn(t *testing.T) {
	lists := map[string][]impl.Term{
		"variables":            {vr(math.MinInt), vr(-1), vr(0), vr(1), vr(9), vr(10), vr(99), vr(100), vr(math.MaxInt)},
		"F":                    {fn(math.MinInt), fn(-2), fn(-1), fn(0), fn(1), fn(5), fn(6), fn(10), fn(math.MaxInt)},
		"F first, then V":      {withV(fn(1, vr(3), vr(3)), 9), withV(fn(2, vr(3)), -9), withV(fn(2), 0)},
		"F ahead of Kids":      {fn(1, fn(9), fn(9)), fn(2), fn(2, fn(1))},
		"V ahead of Kids":      {withV(fn(2, fn(9), fn(9)), 0), withV(fn(2), 1), withV(fn(2, vr(0)), 1)},
		"how many ahead which": {fn(2), fn(2, fn(9)), fn(2, vr(0), vr(0)), fn(2, vr(0), vr(0), vr(0))},
		"the first Kid":        {fn(3, vr(0), fn(9)), fn(3, vr(1), vr(0)), fn(3, fn(1), vr(0)), fn(3, fn(2), vr(0))},
		"the second Kid":       {fn(3, fn(1), vr(0)), fn(3, fn(1), vr(1)), fn(3, fn(1), fn(0)), fn(3, fn(1), fn(2))},
		"the last Kid":         {fn(4, fn(1), vr(0), vr(2)), fn(4, fn(1), vr(0), vr(3)), fn(4, fn(1), vr(0), fn(7))},
		"deep within":          {fn(2, fn(3, fn(1), fn(2, vr(0)))), fn(2, fn(3, fn(1), fn(2, vr(1)))), fn(2, fn(3, fn(1), fn(2, fn(0)))), fn(2, fn(3, fn(1), fn(2, fn(0, vr(0)))))},
		"the first that differ": {
			fn(3, fn(2, vr(0)), fn(9, vr(9))), fn(3, fn(2, vr(1)), fn(0)),
			fn(3, fn(2, vr(1), vr(0)), vr(0)), fn(3, fn(5), vr(0)),
		},
		"a variable with Kids":   {vr(0), fn(-1, vr(0)), fn(-1, fn(3)), fn(-1, vr(0), vr(0)), vr(1), fn(0)},
		"a function with a V":    {withV(fn(1), -1), fn(1), withV(fn(1), 1), withV(fn(1), 99), withV(fn(1), 100), fn(2)},
		"a Kid with another V":   {fn(2, withV(fn(1), -1)), fn(2, fn(1)), fn(2, withV(fn(1), 1))},
		"the least, the largest": {fn(2, vr(math.MinInt)), fn(2, vr(0)), fn(2, vr(math.MaxInt)), fn(2, fn(math.MaxInt))},
	}
	for what, list := range lists {
		for i, a := range list {
			for k, b := range list {
				t.Run(what, func(t *testing.T) { checkPair(t, a, b, i == k, i < k) })
			}
		}
	}
}

func TestKidsNilAndNone(t *testing.T) {
	for _, head := range smallTerms() {
		none := withV(impl.Term{F: head.F, Kids: []impl.Term{}}, head.V)
		checkPair(t, head, none, true, false)
		checkPair(t, none, head, true, false)
		checkPair(t, fn(2, head), fn(2, none), true, false)
	}
	checkPair(t, impl.Term{}, fn(0), true, false)
}

func TestTermAndItself(t *testing.T) {
	for _, x := range someTerms() {
		checkPair(t, x, x, true, false)
		if !impl.TermSame(x, x) || impl.Before(x, x) {
			t.Errorf("%v is not the same as itself, or before it", x)
		}
	}
}

// TestOneIsBefore: of two that are not the same one is before the other.
func TestOneIsBefore(t *testing.T) {
	terms := someTerms()
	for _, a := range terms {
		for _, b := range terms {
			same := textOfAll(a) == textOfAll(b)
			if got := impl.TermSame(a, b); got != same {
				t.Errorf("TermSame(%v, %v) is %v", a, b, got)
			}
			before, after := impl.Before(a, b), impl.Before(b, a)
			if before != isBefore(a, b) {
				t.Errorf("Before(%v, %v) is %v", a, b, before)
			}
			if same && (before || after) || !same && before == after {
				t.Errorf("%v and %v: same %v, before %v, after %v", a, b, same, before, after)
			}
		}
	}
}

func TestBeforeByWayOfAThird(t *testing.T) {
	terms := someTerms()
	slices.SortFunc(terms, func(a, b impl.Term) int {
		if impl.Before(a, b) {
			return -1
		}
		if impl.Before(b, a) {
			return 1
		}
		return 0
	})
	for i, a := range terms {
		for _, b := range terms[i:] {
			if impl.Before(b, a) || impl.Before(a, b) == impl.TermSame(a, b) {
				t.Errorf("%v stands ahead of %v", a, b)
			}
		}
	}
}

func checkVars(t *testing.T, x impl.Term, want []int) {
	t.Helper()
	arg := roomyTerm(x)
	got := impl.VarsOf(arg)
	if !slices.Equal(got, want) {
		t.Errorf("VarsOf(%v) is %v, not %v", x, got, want)
	}
	all := got[:cap(got)]
	for i := range all {
		all[i] = 77777
	}
	checkTermRoom(t, "VarsOf, its answer written over", arg, x)
	if again := impl.VarsOf(arg); !slices.Equal(again, want) {
		t.Errorf("VarsOf(%v), asked again, is %v, not %v", x, again, want)
	}
}

func TestVarsOf(t *testing.T) {
	cases := []struct {
		term impl.Term
		want []int
	}{
		{impl.Term{}, nil},
		{fn(1), nil},
		{vr(0), []int{0}},
		{vr(99), []int{99}},
		{vr(100), []int{100}},
		{vr(-1), []int{-1}},
		{vr(math.MinInt), []int{math.MinInt}},
		{vr(math.MaxInt), []int{math.MaxInt}},
		{withV(fn(1), 4), nil},
		{withV(fn(-2), 4), nil},
		{withV(fn(9), 4), nil},
		{withV(fn(math.MinInt), 4), nil},
		{fn(3, vr(2), fn(2, vr(0))), []int{0, 2}},
		{fn(3, vr(10), vr(9)), []int{9, 10}},
		{fn(4, vr(2), vr(-1), vr(2)), []int{-1, 2}},
		{fn(3, vr(5), fn(2, fn(3, vr(5), fn(2, vr(5))))), []int{5}},
		{fn(-2, vr(7), fn(9, vr(6))), []int{6, 7}},
		{withV(fn(2, vr(1)), 3), []int{1}},
		{fn(5, vr(4), vr(3), vr(2), vr(1), vr(0)), []int{0, 1, 2, 3, 4}},
		{fn(5, vr(math.MaxInt), fn(1), vr(math.MinInt), vr(0)), []int{math.MinInt, 0, math.MaxInt}},
		{withV(fn(-1, vr(3), fn(2, vr(1))), 2), []int{1, 2, 3}},
		{withV(fn(-1, fn(1)), 2), []int{2}},
	}
	for _, c := range cases {
		checkVars(t, c.term, c.want)
	}
}

func checkCount(t *testing.T, x impl.Term, v int, want int) {
	t.Helper()
	arg := roomyTerm(x)
	for range 2 {
		if got := impl.Count(arg, v); got != want {
			t.Errorf("Count(%v, %d) is %d, not %d", x, v, got, want)
		}
	}
	checkTermRoom(t, "Count", arg, x)
}

func TestCount(t *testing.T) {
	cases := []struct {
		term impl.Term
		v    int
		want int
	}{
		{impl.Term{}, 0, 0},
		{fn(1), 0, 0},
		{fn(1), 1, 0},
		{fn(1), -1, 0},
		{vr(0), 0, 1},
		{vr(0), 1, 0},
		{vr(99), 99, 1},
		{vr(99), 100, 0},
		{vr(100), 100, 1},
		{vr(-1), -1, 1},
		{vr(-1), 1, 0},
		{vr(math.MinInt), math.MinInt, 1},
		{vr(math.MaxInt), math.MaxInt, 1},
		{vr(math.MaxInt), math.MinInt, 0},
		{withV(fn(1), 4), 4, 0},
		{withV(fn(-2), 4), 4, 0},
		{withV(fn(2, vr(4)), 4), 4, 1},
		{fn(3, vr(2), fn(2, vr(0))), 2, 1},
		{fn(3, vr(2), fn(2, vr(0))), 1, 0},
		{fn(3, vr(5), fn(2, fn(3, vr(5), fn(2, vr(5))))), 5, 3},
		{fn(5, vr(1), vr(1), vr(1), fn(5, vr(1), vr(2))), 1, 4},
		{fn(-2, vr(7), fn(9, vr(7))), 7, 2},
		{withV(fn(-1, vr(2), fn(2, vr(2)), vr(1)), 2), 2, 3},
		{withV(fn(-1, vr(2)), 3), 3, 1},
	}
	for _, c := range cases {
		checkCount(t, c.term, c.v, c.want)
	}
}

func checkParts(t *testing.T, x impl.Term, want int) {
	t.Helper()
	arg := roomyTerm(x)
	for range 2 {
		if got := impl.Parts(arg); got != want {
			t.Errorf("Parts(%v) is %d, not %d", x, got, want)
		}
	}
	checkTermRoom(t, "Parts", arg, x)
}

func TestParts(t *testing.T) {
	cases := []struct {
		term impl.Term
		want int
	}{
		{impl.Term{}, 1},
		{impl.Term{Kids: []impl.Term{}}, 1},
		{vr(0), 1},
		{vr(-1), 1},
		{fn(-2), 1},
		{fn(9), 1},
		{fn(2, vr(0)), 2},
		{fn(3, vr(2), fn(2, vr(0))), 4},
		{fn(5, vr(1), vr(1), vr(1)), 4},
		{fn(-2, fn(-3, fn(-4))), 3},
		{fn(-1, vr(0), fn(2, fn(1))), 4},
		{fn(5, slices.Repeat([]impl.Term{fn(1)}, 59)...), 60},
		{fn(5, slices.Repeat([]impl.Term{fn(1)}, 60)...), 61},
	}
	for _, c := range cases {
		checkParts(t, c.term, c.want)
	}
}

func TestVarsCountPartsOfAll(t *testing.T) {
	for _, x := range someTerms() {
		parts := partsList(x)
		times := map[int]int{}
		for _, p := range parts {
			if p.F == -1 {
				times[p.V]++
			}
		}
		var vars []int
		for v := range times {
			vars = append(vars, v)
		}
		slices.Sort(vars)
		checkVars(t, x, vars)
		checkParts(t, x, len(parts))
		for _, v := range append([]int{math.MinInt, -1, 0, 3, 7, 100, math.MaxInt}, vars...) {
			checkCount(t, x, v, times[v])
		}
	}
}

func TestTermText(t *testing.T) {
	sig := someSig()
	odd := []impl.Sym{plain("", 0), plain("A b", 7), blind("\xff", -1), plain("A b", 0)}
	cases := []struct {
		sig  []impl.Sym
		term impl.Term
		want string
	}{
		{sig, impl.Term{}, "tt"},
		{sig, vr(0), "X0"},
		{sig, vr(99), "X99"},
		{sig, vr(100), "X100"},
		{sig, vr(-1), "X-1"},
		{sig, vr(math.MinInt), "X-9223372036854775808"},
		{sig, vr(math.MaxInt), "X9223372036854775807"},
		{sig, fn(1), "a"},
		{sig, impl.Term{F: 1, Kids: []impl.Term{}}, "a"},
		{sig, withV(fn(1), 4), "a"},
		{sig, fn(5), "f"},
		{sig, fn(6), "?"},
		{sig, fn(-2), "?"},
		{sig, withV(fn(-2), 4), "?"},
		{sig, fn(math.MinInt), "?"},
		{sig, fn(math.MaxInt), "?"},
		{sig, fn(6, vr(0), fn(1)), "?(X0,a)"},
		{sig, fn(-2, fn(-3), fn(7, vr(1))), "?(?,?(X1))"},
		{sig, fn(2, fn(1)), "g(a)"},
		{sig, fn(3, vr(2), fn(2, vr(0))), "h(X2,g(X0))"},
		{sig, fn(3, fn(2, vr(0)), vr(2)), "h(g(X0),X2)"},
		{sig, fn(4, fn(1), fn(3, vr(1), fn(2, fn(0))), vr(12)), "k3(a,h(X1,g(tt)),X12)"},
		{sig, fn(5, vr(2), vr(1), fn(5, fn(1), vr(0)), vr(1)), "f(X2,X1,f(a,X0),X1)"},
		{sig, fn(1, fn(2), fn(3, vr(0))), "a(g,h(X0))"},
		{sig, fn(-1, fn(1), vr(3)), "X0"},
		{sig, fn(3, withV(fn(-1, fn(1)), 8), fn(1)), "h(X8,a)"},
		{nil, fn(0), "?"},
		{nil, fn(0, vr(1)), "?(X1)"},
		{nil, vr(1), "X1"},
		{[]impl.Sym{}, fn(3, fn(1), vr(5)), "?(?,X5)"},
		{odd, fn(0), ""},
		{odd, fn(0, fn(0), fn(0)), "(,)"},
		{odd, fn(1, fn(2), fn(3), fn(4)), "A b(\xff,A b,?)"},
	}
	for _, c := range cases {
		s, x := withRoom(c.sig, spareSym), roomyTerm(c.term)
		for range 2 {
			if got := impl.TermText(s, x); got != c.want {
				t.Errorf("TermText(%v, %v) is %q, not %q", c.sig, c.term, got, c.want)
			}
		}
		checkRoom(t, "TermText", s, c.sig, spareSym)
		checkTermRoom(t, "TermText", x, c.term)
	}
}

// TestTermTextDoesNotSeeSpareRoom: functions behind the last one are none.
func TestTermTextDoesNotSeeSpareRoom(t *testing.T) {
	sig := someSig()
	if got := impl.TermText(sig[:2], fn(2, fn(1))); got != "?(a)" {
		t.Errorf("TermText is %q", got)
	}
}

// TestDeepTerms has terms that are deeper, and wider, than any that a later chapter takes.
func TestDeepTerms(t *testing.T) {
	const deep = 1 << 20
	a, b := deepTerm(2, deep, vr(3)), deepTerm(2, deep, vr(4))
	if !impl.TermSame(a, a) || impl.TermSame(a, b) || !impl.Before(a, b) || impl.Before(b, a) {
		t.Error("deep terms are not told apart")
	}
	if impl.Parts(a) != deep+1 || impl.Count(a, 3) != 1 || impl.Count(a, 4) != 0 || !slices.Equal(impl.VarsOf(a), []int{3}) {
		t.Error("the variable of a deep term is not found")
	}
	if got := impl.TermText(someSig(), a); got != strings.Repeat("g(", deep)+"X3"+strings.Repeat(")", deep) {
		t.Errorf("TermText of a deep term has %d bytes", len(got))
	}
	wide := fn(5)
	for i := range deep {
		wide.Kids = append(wide.Kids, vr(deep-1-i))
	}
	vars := impl.VarsOf(wide)
	if len(vars) != deep || !slices.IsSorted(vars) || vars[0] != 0 || impl.Parts(wide) != deep+1 {
		t.Errorf("VarsOf a wide term has %d numbers", len(vars))
	}
}
