package tests

import (
	"runtime"
	"slices"
	"sync"
	"testing"
	"time"

	"loop.example/g00461/impl"
)

func TestMatchLimits(t *testing.T) {
	if impl.MaxWays != 60 || impl.MaxTries != 20000 {
		t.Errorf("MaxWays is %d, MaxTries %d", impl.MaxWays, impl.MaxTries)
	}
}

type matchCase struct {
	p, t impl.Term
	want []string
}

// checkCases holds the document's sentence against the texts, and the answers against both. No texts are no way, one that is empty is one way of nothing.
func checkCases(t *testing.T, cases map[string]matchCase) {
	s := orderSig()
	for what, c := range cases {
		t.Run(what, func(t *testing.T) {
			want, ok := isMatches(s, c.p, c.t)
			if !ok || !slices.Equal(wayTexts(s, want), c.want) {
				t.Fatalf("the document's sentence tells %q %v, not %q", wayTexts(s, want), ok, c.want)
			}
			checkMatches(t, s, c.p, c.t, want, true)
		})
	}
}

func TestMatchesOfOther(t *testing.T) {
	a, b := fn(1), fn(2)
	g := func(x impl.Term) impl.Term { return fn(3, x) }
	h := func(x impl.Term, y impl.Term) impl.Term { return fn(4, x, y) }
	x, y, z := vr(0), vr(1), vr(2)
	nothing := []string{""}
	checkCases(t, map[string]matchCase{
		"a variable":                   {x, a, []string{"X0=a"}},
		"a variable, a blind function": {x, fn(5, a, b), []string{"X0=f(a,b)"}},
		"a variable, itself":           {x, x, []string{"X0=X0"}},
		"a variable, another one":      {vr(7), vr(3), []string{"X7=X3"}},
		"the last variable":            {vr(99), vr(99), []string{"X99=X99"}},
		"nothing put":                  {a, a, nothing},
		"nothing put, tt":              {fn(0), fn(0), nothing},
		"nothing put, deep":            {h(g(a), h(a, b)), h(g(a), h(a, b)), nothing},
		"nothing put, 60 parts":        {partsOf(60), partsOf(60), nothing},
		"another constant":             {a, b, nil},
		"another function":             {g(a), a, nil},
		"another one within":           {h(a, b), h(b, a), nil},
		"another one at the end":       {h(a, g(b)), h(a, g(a)), nil},
		"a constant, a variable":       {a, x, nil},
		"a function, a variable":       {g(x), x, nil},
		"a function, a variable in it": {g(a), g(x), nil},
		"one variable twice":           {h(x, x), h(g(a), g(a)), []string{"X0=g(a)"}},
		"twice, not alike":             {h(x, x), h(a, b), nil},
		"twice, not alike, blind":      {h(x, x), h(fn(5, a, b), fn(5, a, a)), nil},
		"twice, variables":             {h(x, x), h(y, y), []string{"X0=X1"}},
		"twice, two variables":         {h(x, x), h(x, y), nil},
		"each for the other":           {h(y, x), h(x, y), []string{"X0=X1;X1=X0"}},
		"as constants":                 {h(x, g(x)), h(y, g(y)), []string{"X0=X1"}},
		"put once":                     {h(x, y), h(g(x), g(y)), []string{"X0=g(X0);X1=g(X1)"}},
		"put once, not again":          {h(x, g(x)), h(g(x), g(x)), nil},
		"in its order":                 {fn(7, vr(5), vr(3), vr(4)), fn(7, a, b, fn(0)), []string{"X3=b;X4=tt;X5=a"}},
		"three alike":                  {fn(7, x, x, x), fn(7, b, b, b), []string{"X0=b"}},
		"three, the last is not":       {fn(7, x, x, x), fn(7, b, b, a), nil},
		"deep ones first":              {fn(7, h(y, z), x, g(y)), fn(7, h(a, b), fn(0), g(a)), []string{"X0=tt;X1=a;X2=b"}},
		"60 parts, a variable":         {deepTerm(3, 59, x), partsOf(60), []string{"X0=a"}},
	})
}

func TestMatchesOfBlind(t *testing.T) {
	a, b := fn(1), fn(2)
	x, y, z := vr(0), vr(1), vr(2)
	f := func(kids ...impl.Term) impl.Term { return fn(5, kids...) }
	e := func(kids ...impl.Term) impl.Term { return fn(6, kids...) }
	g := func(x impl.Term) impl.Term { return fn(3, x) }
	h := func(x impl.Term, y impl.Term) impl.Term { return fn(4, x, y) }
	checkCases(t, map[string]matchCase{
		"two of two":                 {f(x, y), f(a, b), []string{"X0=a;X1=b", "X0=b;X1=a"}},
		"two of three":               {f(x, y), f(a, b, g(a)), []string{"X0=a;X1=f(b,g(a))", "X0=b;X1=f(a,g(a))", "X0=f(a,b);X1=g(a)", "X0=g(a);X1=f(a,b)", "X0=f(a,g(a));X1=b", "X0=f(b,g(a));X1=a"}},
		"three of three":             {f(x, y, z), f(fn(0), a, b), []string{"X0=tt;X1=a;X2=b", "X0=tt;X1=b;X2=a", "X0=a;X1=tt;X2=b", "X0=a;X1=b;X2=tt", "X0=b;X1=tt;X2=a", "X0=b;X1=a;X2=tt"}},
		"alike ones in the term":     {f(x, y), f(a, a), []string{"X0=a;X1=a"}},
		"three alike in the term":    {f(x, y), f(b, b, b), []string{"X0=b;X1=f(b,b)", "X0=f(b,b);X1=b"}},
		"alike ones in the pattern":  {f(x, x), f(a, a), []string{"X0=a"}},
		"alike, in pairs":            {f(x, x), f(a, a, b, b), []string{"X0=f(a,b)"}},
		"alike, four":                {f(x, x), f(a, a, a, a), []string{"X0=f(a,a)"}},
		"alike, not the term":        {f(x, x), f(a, b), nil},
		"alike, three":               {f(x, x), f(a, a, a), nil},
		"alike thrice":               {f(x, x, x), f(a, a, a), []string{"X0=a"}},
		"alike and another":          {f(x, x, y), f(a, a, b), []string{"X0=a;X1=b"}},
		"another and alike":          {f(x, y, y), f(a, a, b), []string{"X0=b;X1=a"}},
		"alike and another of four":  {f(x, x, y), f(a, a, b, b), []string{"X0=a;X1=f(b,b)", "X0=b;X1=f(a,a)"}},
		"a constant is left":         {f(x, a), f(a, b), []string{"X0=b"}},
		"a constant, met twice":      {f(x, a), f(a, a), []string{"X0=a"}},
		"a constant, some are left":  {f(x, b), f(a, b, b), []string{"X0=f(a,b)"}},
		"a constant is not there":    {f(x, a), f(b, b), nil},
		"no variable":                {f(a, b), f(a, b), []string{""}},
		"no variable, alike":         {f(a, a, a), f(a, a, a), []string{""}},
		"no variable, one is over":   {f(a, b), f(a, b, b), nil},
		"no variable, one lacks":     {f(a, b, b), f(a, b), nil},
		"no variable, another":       {f(a, a, b), f(a, b, b), nil},
		"one Kid too many":           {f(x, y, z), f(a, b), nil},
		"many Kids too many":         {f(x, y, z, a, a, b), f(a, b), nil},
		"bound Kids too many":        {f(x, x, x, x), f(a, a), nil},
		"one takes all but one":      {f(x, b), f(a, a, a, b), []string{"X0=f(a,a,a)"}},
		"another blind function":     {f(x, y), e(a, b), nil},
		"a constant for blind":       {f(x, y), a, nil},
		"a variable for blind":       {f(x, y), x, nil},
		"blind for another":          {g(x), f(a, b), nil},
		"variables as constants":     {f(x, y), f(x, y), []string{"X0=X0;X1=X1", "X0=X1;X1=X0"}},
		"variables alike":            {f(x, x, y), f(x, y, y), []string{"X0=X1;X1=X0"}},
		"variables of the term":      {f(x, g(x)), f(y, g(y)), []string{"X0=X1"}},
		"a constant, a variable":     {f(x, a), f(x, y), nil},
		"within one":                 {f(x, g(y)), f(g(a), g(b)), []string{"X0=g(a);X1=b", "X0=g(b);X1=a"}},
		"within each":                {f(g(x), g(y)), f(g(a), g(b)), []string{"X0=a;X1=b", "X0=b;X1=a"}},
		"within each, not bound":     {f(g(x), g(x)), f(g(a), g(b)), nil},
		"within one, bound":          {f(x, g(x)), f(a, g(a)), []string{"X0=a"}},
		"within one, bound to two":   {f(x, g(x)), f(a, b, g(f(a, b))), []string{"X0=f(a,b)"}},
		"within one, another":        {f(x, g(x)), f(a, g(b)), nil},
		"blind in another blind one": {f(x, e(y, z)), f(a, e(a, b)), []string{"X0=a;X1=a;X2=b", "X0=a;X1=b;X2=a"}},
		"both sides":                 {h(f(x, y), f(z, vr(3))), h(f(a, b), f(a, b)), []string{"X0=a;X1=b;X2=a;X3=b", "X0=a;X1=b;X2=b;X3=a", "X0=b;X1=a;X2=a;X3=b", "X0=b;X1=a;X2=b;X3=a"}},
		"both sides, one variable":   {h(f(x, y), g(y)), h(f(a, b), g(a)), []string{"X0=b;X1=a"}},
		"the same both sides":        {h(f(x, y), f(x, y)), h(f(a, b), f(a, b)), []string{"X0=a;X1=b", "X0=b;X1=a"}},
	})
}

// TestMatchesOfBound: a Kid for which something is put already.
func TestMatchesOfBound(t *testing.T) {
	a, b := fn(1), fn(2)
	x, y, z := vr(0), vr(1), vr(2)
	f := func(kids ...impl.Term) impl.Term { return fn(5, kids...) }
	e := func(kids ...impl.Term) impl.Term { return fn(6, kids...) }
	h := func(x impl.Term, y impl.Term) impl.Term { return fn(4, x, y) }
	checkCases(t, map[string]matchCase{
		"it is there":               {h(x, f(x, y)), h(a, f(a, b)), []string{"X0=a;X1=b"}},
		"it is there twice":         {h(x, f(x, y)), h(a, f(a, a)), []string{"X0=a;X1=a"}},
		"it is not there":           {h(x, f(x, y)), h(fn(0), f(a, b)), nil},
		"it is there, none is left": {h(x, f(x, x)), h(a, f(a, b)), nil},
		"the last one is there":     {h(y, f(x, y)), h(b, f(a, b)), []string{"X0=a;X1=b"}},
		"of that function":          {h(x, f(x, y)), h(f(a, b), f(a, a, b)), []string{"X0=f(a,b);X1=a"}},
		"of it, alike Kids":         {h(x, f(x, y)), h(f(a, a), f(a, a, b)), []string{"X0=f(a,a);X1=b"}},
		"of it, the first lacks":    {h(x, f(x, y)), h(f(a, b), f(b, b, b)), nil},
		"of it, the last lacks":     {h(x, f(x, y)), h(f(a, b), f(a, a, a)), nil},
		"of it, one of two lacks":   {h(x, f(x, y)), h(f(a, a), f(a, b, b)), nil},
		"of it, all but another":    {h(x, f(x, y)), h(f(a, b), f(a, b)), nil},
		"of it, all":                {h(x, f(x, x)), h(f(a, b), f(a, a, b, b)), []string{"X0=f(a,b)"}},
		"of it, twice is more":      {h(x, f(x, x)), h(f(a, b), f(a, b, b)), nil},
		"of it, with a constant":    {h(x, f(x, b)), h(f(a, b), f(a, b, b)), []string{"X0=f(a,b)"}},
		"of the other blind one":    {h(x, f(x, y)), h(e(a, b), f(a, b, e(a, b))), []string{"X0=e(a,b);X1=f(a,b)"}},
		"of the other, its Kids":    {h(x, f(x, y)), h(e(a, b), f(a, a, b)), nil},
		"a variable of the term":    {h(x, f(x, y)), h(z, f(x, z)), []string{"X0=X2;X1=X0"}},
		"of it, of variables":       {h(x, f(x, y)), h(f(x, y), f(x, y, y)), []string{"X0=f(X0,X1);X1=X1"}},
		"bound behind":              {h(f(x, y), x), h(f(a, b, b), f(a, b)), []string{"X0=f(a,b);X1=b"}},
		"bound behind, both":        {fn(7, x, f(x, y), y), fn(7, a, f(a, b, b), f(b, b)), []string{"X0=a;X1=f(b,b)"}},
		"bound behind, not so":      {fn(7, x, f(x, y), y), fn(7, a, f(a, b, b), b), nil},
		"bound to one of the two":   {h(f(x, y), e(x, z)), h(f(a, b), e(fn(0), b)), []string{"X0=b;X1=a;X2=tt"}},
	})
}

func TestMatchesRefusesTerms(t *testing.T) {
	s := orderSig()
	right := []impl.Term{fn(0), fn(1), vr(0), vr(99), fn(3, fn(1)), fn(5, fn(1), fn(2)), partsOf(60)}
	for what, wrong := range wrongTerms() {
		t.Run(what, func(t *testing.T) {
			for _, x := range right {
				checkNoMatch(t, s, wrong, x)
				checkNoMatch(t, s, x, wrong)
			}
			checkNoMatch(t, s, wrong, wrong)
		})
	}
	for f := range 8 {
		loop := loopedTerm(f)
		list, ok := impl.Matches(s, loop, fn(1))
		again, okAgain := impl.Matches(s, vr(0), loop)
		if ok || okAgain || len(list) > 0 || len(again) > 0 || impl.Instance(s, vr(0), loop) {
			t.Errorf("a term of %d without end is taken", f)
		}
	}
}

func TestMatchesRefusesFunctions(t *testing.T) {
	sigs := wrongSigs()
	sigs["odd blind"] = oddBlind()
	for what, sig := range sigs {
		t.Run(what, func(t *testing.T) {
			for _, x := range []impl.Term{fn(0), vr(0), fn(1), fn(5, fn(1), fn(2))} {
				checkNoMatch(t, sig, x, x)
				checkNoMatch(t, sig, vr(0), x)
			}
		})
	}
}

// TestMatchesOfManyKids: of the term 12 are taken, 13 are not, wherever they stand; of the pattern any.
func TestMatchesOfManyKids(t *testing.T) {
	s, a := orderSig(), fn(1)
	shapes := map[string]func(n int) impl.Term{
		"at its top":           func(n int) impl.Term { return fn(5, alike(n, a)...) },
		"within":               func(n int) impl.Term { return fn(3, fn(5, alike(n, a)...)) },
		"deep within":          func(n int) impl.Term { return deepTerm(3, 40, fn(5, alike(n, a)...)) },
		"at the right":         func(n int) impl.Term { return fn(4, a, fn(6, alike(n, a)...)) },
		"within another blind": func(n int) impl.Term { return fn(5, vr(0), vr(1), a, fn(6, alike(n, a)...)) },
		"of two":               func(n int) impl.Term { return fn(4, fn(5, alike(12, a)...), fn(6, alike(n, vr(0))...)) },
		"unlike ones":          func(n int) impl.Term { return fn(5, unlike(n)...) },
	}
	for what, shape := range shapes {
		t.Run(what, func(t *testing.T) {
			checkMatches(t, s, vr(3), shape(12), [][]impl.Bind{bound(one(3, shape(12)))}, true)
			for _, n := range []int{13, 14, 30} {
				checkNoMatch(t, s, vr(3), shape(n))
			}
			checkNoMatch(t, s, a, shape(13))
		})
	}
	for n := 11; n <= 15; n++ {
		if ways := checkModel(t, s, fn(5, alike(n, a)...), a); ways != 0 {
			t.Errorf("of a pattern of %d Kids there are %d ways", n, ways)
		}
		want := 0
		if n == 12 {
			want = 1
		}
		if ways := checkModel(t, s, fn(4, vr(0), fn(6, alike(n, vr(0))...)), fn(4, a, fn(6, alike(12, a)...))); ways != want {
			t.Errorf("of a pattern of %d bound Kids there are %d ways", n, ways)
		}
	}
	checkNoMatch(t, s, fn(5, unlike(13)...), fn(5, unlike(12)...))
	checkMatches(t, s, fn(5, alike(58, a)...), fn(5, alike(2, fn(2))...), nil, true)
}

// TestMatchesAtMaxWays: 60 are told, 61 are not, nor more; that some are met more than once does not count.
func TestMatchesAtMaxWays(t *testing.T) {
	s, a := orderSig(), fn(1)
	ab := func(f int, n int, v int) impl.Term {
		var kids []impl.Term
		for i := range n {
			kids = append(kids, vr(v+i))
		}
		return fn(f, kids...)
	}
	two := fn(5, vr(0), vr(1))
	some := fn(5, vr(2), fn(3, two))
	of := func(kids ...impl.Term) impl.Term {
		var out []impl.Term
		for _, x := range kids {
			out = append(out, fn(3, x))
		}
		return oneForm(s, fn(5, out...))
	}
	cases := map[string]struct {
		p, t impl.Term
		ways int
	}{
		"2 by 5 less 2":            {two, ab(5, 5, 20), 30},
		"2 by 6 less 2":            {two, ab(5, 6, 20), -1},
		"2 times 30":               {fn(4, two, fn(6, vr(2), vr(3))), fn(4, ab(5, 2, 20), ab(6, 5, 20)), 60},
		"30 times 2":               {fn(4, two, fn(6, vr(2), vr(3))), fn(4, ab(5, 5, 20), ab(6, 2, 20)), 60},
		"6 times 6":                {fn(4, two, fn(6, vr(2), vr(3))), fn(4, ab(5, 3, 20), ab(6, 3, 20)), 36},
		"6 times 14":               {fn(4, two, fn(6, vr(2), vr(3))), fn(4, ab(5, 3, 20), ab(6, 4, 20)), -1},
		"30 and 30":                {some, of(ab(5, 5, 20), ab(5, 5, 30)), 60},
		"30, 30 and 1":             {some, of(ab(5, 5, 20), ab(5, 5, 30), fn(5, a, a)), -1},
		"30, 14, 14 and 1":         {some, of(ab(5, 5, 20), ab(5, 4, 30), ab(5, 4, 40), fn(5, a, a)), 59},
		"30, 14, 14 and 1, 1":      {some, of(ab(5, 5, 20), ab(5, 4, 30), ab(5, 4, 40), fn(5, a, a), fn(5, vr(7), vr(7))), 60},
		"30, 14, 14, and 1, 1, 1":  {some, of(ab(5, 5, 20), ab(5, 4, 30), ab(5, 4, 40), fn(5, a, a), fn(5, vr(7), vr(7)), fn(5, vr(8), vr(8))), -1},
		"30, 30, each twice":       {some, of(ab(5, 5, 20), ab(5, 5, 20), ab(5, 5, 30), ab(5, 5, 30)), 60},
		"30, 30, 1, each twice":    {some, of(ab(5, 5, 20), ab(5, 5, 20), ab(5, 5, 30), fn(5, a, a), fn(5, a, a)), -1},
		"510 are met, 8 are alike": {two, fn(5, alike(9, a)...), 8},
		"510 are met, 28 stay":     {two, fn(5, append(alike(4, a), alike(5, fn(2))...)...), 28},
	}
	for what, c := range cases {
		t.Run(what, func(t *testing.T) {
			if ways := checkModel(t, s, c.p, c.t); ways != c.ways {
				t.Errorf("there are %d ways, not %d", ways, c.ways)
			}
		})
	}
}

// filler is a pattern and a term of one way alone, which take some steps: the more, the greater n is.
func filler(v int, n int) (impl.Term, impl.Term) {
	return fn(6, vr(v), fn(2)), fn(6, append(alike(n-1, fn(1)), fn(2))...)
}

// mostFiller is the greatest n that fits.
const mostFiller = 11

// fewestParts tells, for each number of steps up to most, the last filler of those that come to it and have the fewest parts; 0 is a part of one step.
func fewestParts(s []impl.Sym, most int) ([]int, [mostFiller + 1]int) {
	gain := [mostFiller + 1]int{0: 1}
	for n := 2; n <= mostFiller; n++ {
		p, t := filler(0, n)
		_, gain[n] = metWays(s, p, t, 100000)
	}
	parts, last := make([]int, most+1), make([]int, most+1)
	for steps := 1; steps <= most; steps++ {
		parts[steps] = parts[steps-1] + 1
		for n := 2; n <= mostFiller; n++ {
			if gain[n] <= steps && parts[steps-gain[n]]+n+2 < parts[steps] {
				parts[steps], last[steps] = parts[steps-gain[n]]+n+2, n
			}
		}
	}
	return last, gain
}

// filled has p and t behind what takes steps of its own, so that all together take that many.
func filled(s []impl.Sym, p impl.Term, t impl.Term, steps int) (impl.Term, impl.Term) {
	_, taken := metWays(s, p, t, steps)
	left := steps - taken - 2
	last, gain := fewestParts(s, left)
	deep, v := 0, 80
	for left > 0 {
		n := last[left]
		left -= gain[n]
		if n == 0 {
			deep++
			continue
		}
		x, y := filler(v, n)
		p, t, v = fn(4, x, p), fn(4, y, t), v+1
	}
	chain := deepTerm(3, deep, fn(1))
	return fn(4, chain, p), fn(4, chain, t)
}

// nearMaxTries takes a bit less than MaxTries steps each, by all that a step is, and all that is none.
func nearMaxTries() map[string][2]impl.Term {
	a, b := fn(1), fn(2)
	f := func(kids ...impl.Term) impl.Term { return fn(5, kids...) }
	g := func(x impl.Term) impl.Term { return fn(3, x) }
	ab := fn(6, a, b)
	half := func(n int, m int, x impl.Term) impl.Term { return f(append(alike(n, a), alike(m, x)...)...) }
	return map[string][2]impl.Term{
		"two variables":                  {f(vr(0), vr(1)), f(alike(9, a)...)},
		"two variables, others":          {f(vr(0), vr(1)), half(4, 5, b)},
		"none is a way at the end":       {fn(4, f(vr(0), vr(1)), a), fn(4, f(alike(9, a)...), b)},
		"three variables":                {f(vr(0), vr(1), vr(2)), f(alike(7, a)...)},
		"two twice":                      {f(vr(0), vr(0), vr(1), vr(1)), f(alike(10, a)...)},
		"the last one twice":             {f(vr(0), vr(1), vr(1)), f(unlike(9)...)},
		"one twice":                      {f(vr(0), vr(0), vr(1)), half(10, 1, ab)},
		"one thrice":                     {f(vr(0), vr(0), vr(0), vr(1)), f(alike(12, a)...)},
		"one thrice, others":             {f(vr(0), vr(0), vr(0), vr(1)), half(6, 6, b)},
		"a variable and a constant":      {f(vr(0), a), half(5, 6, b)},
		"a variable, a constant twice":   {f(vr(0), a, a), f(unlike(11)...)},
		"one within":                     {f(vr(0), g(vr(1))), half(10, 1, g(a))},
		"bound behind":                   {fn(7, f(vr(0), vr(1)), vr(0), vr(2)), fn(7, f(alike(9, a)...), a, b)},
		"it within, not there":           {f(vr(0), g(vr(0))), half(5, 6, g(a))},
		"one within each":                {f(vr(0), g(vr(1)), g(vr(2))), half(4, 5, g(a))},
		"it, and a blind one":            {f(vr(0), fn(6, vr(0), vr(1))), half(5, 6, ab)},
		"it twice, and a blind one":      {f(vr(0), vr(0), fn(6, vr(1), vr(2))), half(11, 1, ab)},
		"constants alone":                {f(alike(4, a)...), f(alike(11, a)...)},
		"five constants":                 {f(alike(5, a)...), f(alike(8, a)...)},
		"five constants, one is another": {f(alike(5, a)...), half(8, 1, ab)},
		"seven constants":                {f(alike(7, a)...), half(6, 6, b)},
	}
}

// TestMatchesAtMaxTries: MaxTries steps are taken, one more is not.
func TestMatchesAtMaxTries(t *testing.T) {
	s := orderSig()
	for what, c := range nearMaxTries() {
		t.Run(what, func(t *testing.T) {
			for more := range 3 {
				p, x := filled(s, c[0], c[1], 20000+more)
				if _, steps := metWays(s, p, x, 30000); steps != 20000+more || !isOk(s, p) || !isOk(s, x) {
					t.Fatalf("%s and %s take %d steps, not %d", impl.TermText(s, p), impl.TermText(s, x), steps, 20000+more)
				}
				ways := checkModel(t, s, p, x)
				if (ways >= 0) != (more == 0) {
					t.Errorf("at %d steps there are %d ways", 20000+more, ways)
				}
			}
		})
	}
}

// TestMatchesOfFarTooMuch: it ends, however much there would be to look at.
func TestMatchesOfFarTooMuch(t *testing.T) {
	s := orderSig()
	wide := fn(5, unlike(12)...)
	for n := 2; n <= 40; n += 4 {
		checkNoMatch(t, s, fn(5, unlike(n)...), wide)
		checkNoMatch(t, s, fn(5, append(unlike(n), fn(1))...), fn(5, alike(12, fn(1))...))
	}
	checkNoMatch(t, s, fn(4, fn(5, vr(0), vr(1)), fn(1)), fn(4, wide, fn(2)))
	checkNoMatch(t, s, fn(5, alike(12, fn(1))...), fn(5, alike(12, fn(1))...))
	all := fn(7, wide, fn(6, unlike(12)...), fn(7, wide, wide, fn(3, fn(1))))
	if !impl.TermOk(s, all) {
		t.Error("it is too large")
	}
	checkNoMatch(t, s, fn(7, fn(5, vr(0), vr(1)), fn(6, vr(2), vr(3)), fn(7, fn(5, vr(4), vr(5)), fn(5, vr(6), vr(7)), vr(8))), all)
}

// TestMatchesOfAll holds all pairs of many terms against the document's sentence.
func TestMatchesOfAll(t *testing.T) {
	s := orderSig()
	terms := orderTerms()
	some := 0
	for i, p := range terms {
		for k, x := range terms {
			if ways := checkModel(t, s, p, x); ways > 0 && i != k {
				some++
			}
		}
	}
	if some < 1000 {
		t.Errorf("only %d become others", some)
	}
}

// TestMatchesOfAllForms asks terms that are wrong, too, at functions that are.
func TestMatchesOfAllForms(t *testing.T) {
	terms := formTerms()
	for what, sig := range formSigs() {
		t.Run(what, func(t *testing.T) {
			for i, p := range terms {
				x := terms[(i*31+7)%len(terms)]
				if i%2 == 0 {
					x = terms[i%40]
				}
				checkModel(t, sig, p, x)
				checkModel(t, sig, vr(i%3), p)
			}
		})
	}
}

// TestMatchesLeavesNobodyBehind: whoever looked is done, where it was refused, too.
func TestMatchesLeavesNobodyBehind(t *testing.T) {
	s, before := orderSig(), runtime.NumGoroutine()
	p := fn(5, vr(0), vr(1))
	for range 50 {
		impl.Matches(s, p, fn(5, unlike(12)...))
		impl.Matches(s, p, fn(5, unlike(3)...))
		impl.MatchOne(s, p, fn(5, unlike(5)...))
		impl.Instance(s, p, fn(1))
	}
	for range 2000 {
		if runtime.NumGoroutine() <= before {
			return
		}
		time.Sleep(time.Millisecond)
	}
	t.Errorf("%d are left behind", runtime.NumGoroutine()-before)
}

// TestMatchesAtOnce: several ask at the same time, of the same terms.
func TestMatchesAtOnce(t *testing.T) {
	s := orderSig()
	p, x := fn(5, vr(0), vr(1)), fn(5, append(alike(4, fn(1)), alike(5, fn(2))...)...)
	want, _ := isMatches(s, p, x)
	var all sync.WaitGroup
	for range 8 {
		all.Go(func() {
			got, ok := impl.Matches(s, p, x)
			first, there := impl.MatchOne(s, p, x)
			if !ok || !there || !sameWays(got, want) || !sameBinds(first, want[0]) {
				t.Errorf("at once, it is %q", wayTexts(s, got))
			}
		})
	}
	all.Wait()
}
