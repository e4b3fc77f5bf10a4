package tests

import (
	"slices"
	"testing"

	"loop.example/g00461/impl"
)

func TestUnifyLimits(t *testing.T) {
	if impl.MaxUnits != 60 || impl.MaxWork != 400 || impl.MaxChoose != 8 {
		t.Errorf("MaxUnits is %d, MaxWork %d, MaxChoose %d", impl.MaxUnits, impl.MaxWork, impl.MaxChoose)
	}
	if impl.UnDone != 0 || impl.UnBad != 1 || impl.UnFuel != 2 {
		t.Errorf("UnDone is %d, UnBad %d, UnFuel %d", impl.UnDone, impl.UnBad, impl.UnFuel)
	}
}

type unifyCase struct {
	a, b impl.Term
	want []string
}

// checkUnifyCases holds the document's sentence against the texts, and the answers against both. No texts are no solution, one that is empty is one where nothing is put.
func checkUnifyCases(t *testing.T, cases map[string]unifyCase) {
	s := orderSig()
	for what, c := range cases {
		t.Run(what, func(t *testing.T) {
			want, how := isUnify(s, c.a, c.b)
			if how != 0 || !slices.Equal(wayTexts(s, want), c.want) {
				t.Fatalf("the document's sentence tells %q %d, not %q", wayTexts(s, want), how, c.want)
			}
			checkUnify(t, s, c.a, c.b, want, 0)
			for _, u := range want {
				checkSolved(t, s, u, c.a, c.b, true)
			}
		})
	}
}

func TestUnifyOfOther(t *testing.T) {
	a, b := fn(1), fn(2)
	g := func(x impl.Term) impl.Term { return fn(3, x) }
	h := func(x impl.Term, y impl.Term) impl.Term { return fn(4, x, y) }
	k := func(x impl.Term, y impl.Term, z impl.Term) impl.Term { return fn(7, x, y, z) }
	x, y, z := vr(0), vr(1), vr(2)
	nothing := []string{""}
	checkUnifyCases(t, map[string]unifyCase{
		"alike":                           {a, a, nothing},
		"alike, tt":                       {fn(0), fn(0), nothing},
		"alike, a variable":               {x, x, nothing},
		"alike, the last variable":        {vr(99), vr(99), nothing},
		"alike, deep":                     {h(g(x), h(a, y)), h(g(x), h(a, y)), nothing},
		"alike, 60 parts":                 {partsOf(60), partsOf(60), nothing},
		"alike, blind":                    {fn(5, x, a, a), fn(5, x, a, a), nothing},
		"alike, blind, 59 Kids":           {fn(5, alike(59, a)...), fn(5, alike(59, a)...), nothing},
		"alike, six variables":            {fn(5, unlike(6)...), fn(5, unlike(6)...), nothing},
		"a variable":                      {x, a, []string{"X0=a"}},
		"a variable behind":               {a, x, []string{"X0=a"}},
		"a variable, 60 parts":            {x, partsOf(60), []string{"X0=" + impl.TermText(orderSig(), partsOf(60))}},
		"a variable, blind":               {x, fn(5, a, b), []string{"X0=f(a,b)"}},
		"a variable behind, blind":        {fn(5, y, b), x, []string{"X0=f(X1,b)"}},
		"two variables":                   {x, y, []string{"X0=X1"}},
		"two variables, the other way":    {y, x, []string{"X1=X0"}},
		"the last variables":              {vr(98), vr(99), []string{"X98=X99"}},
		"it stands in the other":          {x, g(x), nil},
		"it stands in the first":          {g(x), x, nil},
		"it stands deep in the other":     {x, h(a, g(h(y, x))), nil},
		"it stands in a blind one":        {x, fn(5, x, a), nil},
		"it stands in a blind first one":  {fn(6, a, fn(5, x, b)), x, nil},
		"it stands in by another":         {h(x, y), h(g(y), x), nil},
		"it stands in by two others":      {k(x, y, z), k(g(y), g(z), g(x)), nil},
		"it stands in itself alone":       {h(x, y), h(y, x), []string{"X0=X1"}},
		"two constants":                   {a, b, nil},
		"a constant and a function":       {a, g(a), nil},
		"two functions":                   {h(x, x), g(x), nil},
		"two blind functions":             {fn(5, a, b), fn(6, a, b), nil},
		"a blind function and another":    {fn(5, a, b), h(a, b), nil},
		"another and a blind function":    {h(x, y), fn(5, x, y), nil},
		"not alike within":                {g(g(a)), g(g(b)), nil},
		"not alike at the end":            {k(x, y, a), k(y, x, b), nil},
		"not alike with what is put":      {h(x, a), h(b, x), nil},
		"each side's":                     {h(x, g(y)), h(g(y), x), []string{"X0=g(X1)"}},
		"from the left":                   {h(x, y), h(y, a), []string{"X0=a;X1=a"}},
		"from the left, behind":           {h(y, a), h(x, y), []string{"X0=a;X1=a"}},
		"Kids ahead of the others":        {h(g(x), y), h(g(y), x), []string{"X0=X1"}},
		"Kids ahead, deeper":              {k(h(x, g(y)), y, z), k(h(y, g(z)), z, x), []string{"X0=X2;X1=X2"}},
		"put in what was put":             {k(x, y, z), k(g(y), g(z), a), []string{"X0=g(g(a));X1=g(a);X2=a"}},
		"put in what is still to come":    {k(x, g(x), y), k(a, y, g(a)), []string{"X0=a;X1=g(a)"}},
		"put in both":                     {k(x, y, z), k(h(y, z), h(z, z), a), []string{"X0=h(h(a,a),a);X1=h(a,a);X2=a"}},
		"one variable for all":            {k(x, y, z), k(y, z, x), []string{"X0=X2;X1=X2"}},
		"what is put is in its one form":  {k(x, y, a), k(fn(5, y, a), fn(5, z, b), a), []string{"X0=f(X2,a,b);X1=f(X2,b)"}},
		"what is put is in order":         {h(x, y), h(fn(5, y, a), a), []string{"X0=f(a,a);X1=a"}},
		"what is told is in order":        {k(vr(9), vr(3), vr(5)), k(a, b, fn(0)), []string{"X3=b;X5=tt;X9=a"}},
		"alike by what is put":            {k(x, y, fn(5, x, b)), k(a, a, fn(5, y, b)), []string{"X0=a;X1=a"}},
		"alike by what is put, bracketed": {h(x, fn(5, x, a)), h(fn(5, y, b), fn(5, y, a, b)), []string{"X0=f(X1,b)"}},
	})
}

// TestUnifyOfBlind: what both have, and new variables.
func TestUnifyOfBlind(t *testing.T) {
	a, b := fn(1), fn(2)
	g := func(x impl.Term) impl.Term { return fn(3, x) }
	h := func(x impl.Term, y impl.Term) impl.Term { return fn(4, x, y) }
	f := func(kids ...impl.Term) impl.Term { return fn(5, kids...) }
	e := func(kids ...impl.Term) impl.Term { return fn(6, kids...) }
	x, y, z := vr(0), vr(1), vr(2)
	checkUnifyCases(t, map[string]unifyCase{
		"both have one":                   {f(x, a), f(a, b), []string{"X0=b;X1=b"}},
		"both have one variable":          {f(x, y), f(x, z), []string{"X1=X3;X2=X3"}},
		"both have one function":          {f(x, g(y)), f(b, g(y)), []string{"X0=b;X2=b"}},
		"both have one twice":             {f(x, a, a), f(a, a, b), []string{"X0=b;X1=b"}},
		"both have two":                   {f(x, a, b), f(a, b, g(a)), []string{"X0=g(a);X1=g(a)"}},
		"the first has it more often":     {f(x, x, a), f(x, a, b), []string{"X0=b;X1=b"}},
		"the other has it more often":     {f(x, a), f(a, a), []string{"X0=a;X1=a"}},
		"the other has it once more":      {f(x, y, a), f(a, a, a), []string{"X0=a;X1=a;X2=a"}},
		"the other has it twice more":     {f(x, a), f(a, a, a), []string{"X0=f(a,a);X1=a"}},
		"the first has it thrice":         {f(a, a, a, b), f(x, a, b), []string{"X0=f(a,a);X1=a"}},
		"it is left, another is not":      {f(x, a, a), f(a, b, b), nil},
		"both have it by what is put":     {h(x, f(x, y)), h(a, f(a, b)), []string{"X0=a;X1=b;X2=b"}},
		"both have its Kids by that":      {h(x, f(x, y)), h(f(a, b), f(a, a, b)), []string{"X0=f(a,b);X1=a;X2=a"}},
		"the first has none left":         {f(x, a), f(x, a, a), nil},
		"the other has none left":         {f(x, a, b), f(x, a), nil},
		"none left, no variables":         {f(a, b), f(a, b, b), nil},
		"none left, by what is put":       {h(x, f(x, y)), h(f(a, b), f(a, b)), nil},
		"one left, alike by what is new":  {f(a, g(x)), f(a, g(b)), []string{"X0=b;X1=g(b)"}},
		"one left, not alike":             {f(a, b), f(a, a), nil},
		"one left, it stands in":          {f(x, a), f(a, g(x)), nil},
		"one left, several on a side":     {f(vr(7), a), f(vr(3), a, a), []string{"X3=X9;X7=f(X9,a);X8=a"}},
		"two of two":                      {f(x, y), f(a, b), []string{"X0=b;X1=a;X2=a;X3=b", "X0=a;X1=b;X2=b;X3=a"}},
		"two of two, the other way":       {f(a, b), f(x, y), []string{"X0=b;X1=a;X2=b;X3=a", "X0=a;X1=b;X2=b;X3=a"}},
		"a variable on each side":         {f(x, a), f(y, b), []string{"X0=b;X1=a;X2=a;X3=b", "X0=f(X4,b);X1=f(X4,a);X2=a;X3=b"}},
		"two variables on each side":      {f(x, y), f(z, vr(3)), []string{"X0=X5;X1=X4;X2=X4;X3=X5", "X0=X6;X1=f(X4,X5);X2=X5;X3=f(X4,X6)", "X0=X5;X1=X4;X2=X5;X3=X4", "X0=X6;X1=f(X4,X5);X2=f(X5,X6);X3=X4", "X0=f(X5,X6);X1=X4;X2=X6;X3=f(X4,X5)", "X0=f(X5,X6);X1=X4;X2=f(X4,X6);X3=X5", "X0=f(X6,X7);X1=f(X4,X5);X2=f(X5,X7);X3=f(X4,X6)"}},
		"alike ones are counted":          {f(x, x), f(a, a), []string{"X0=a;X1=a"}},
		"alike ones, four":                {f(x, x, x, x), f(a, a, a, a), []string{"X0=a;X1=a"}},
		"alike ones, halves":              {f(x, x), f(a, a, b, b), []string{"X0=f(a,b);X1=b;X2=a"}},
		"alike ones, halves of variables": {f(x, x), f(y, y, z, z), []string{"X0=f(X3,X4);X1=X4;X2=X3"}},
		"alike ones of two others":        {f(x, x), f(a, b), nil},
		"alike ones of two variables":     {f(x, x), f(y, z), []string{"X0=X3;X1=X3;X2=X3", "X0=f(X3,X4);X1=X4;X2=f(X3,X3,X4)", "X0=f(X3,X4);X1=f(X4,X4);X2=f(X3,X3)", "X0=f(X3,X4);X1=f(X3,X4,X4);X2=X3", "X0=f(X3,X4,X5);X1=f(X4,X5,X5);X2=f(X3,X3,X4)"}},
		"alike ones, three and two":       {f(x, x, x), f(y, y), []string{"X0=f(X2,X2);X1=f(X2,X2,X2)"}},
		"no variable gets one alone":      {f(x, x), f(y, a), []string{"X0=a;X1=a;X2=a", "X0=f(X3,a);X1=f(X3,X3,a);X2=a"}},
		"no variable gets two":            {f(x, x), f(a, a, a, b), nil},
		"three of two":                    {f(x, y, z), f(a, b), nil},
		"two of one thrice":               {f(x, y), f(a, a, a), []string{"X0=a;X1=f(a,a);X2=a", "X0=f(a,a);X1=a;X2=a"}},
		"within one":                      {f(a, g(x)), f(y, b), nil},
		"within each":                     {f(g(x), g(y)), f(g(a), g(b)), []string{"X0=b;X1=a;X2=g(a);X3=g(b)", "X0=a;X1=b;X2=g(b);X3=g(a)"}},
		"within each, one variable":       {f(g(x), g(x)), f(g(a), g(b)), nil},
		"what is put for the new ones":    {f(y, g(x)), f(a, g(y)), []string{"X0=a;X1=a;X2=g(a);X3=a"}},
		"blind in another blind one":      {f(x, e(y, a)), f(b, e(a, b)), []string{"X0=b;X1=b;X2=e(a,b);X3=b;X4=b"}},
		"it stands in, by a choice":       {f(x, a), f(b, g(x)), nil},
		"its Kids ahead of the others":    {h(f(a, g(x)), y), h(f(a, g(y)), x), []string{"X1=X0;X2=g(X0)"}},
		"told twice":                      {f(h(x, x), h(x, y)), f(h(y, x), h(y, y)), []string{"X1=X0;X2=h(X0,X0);X3=h(X0,X0)"}},
	})
}

// TestUnifyInEachChoice: new variables go on from where the choice began, and in one choice from what was new ahead of it.
func TestUnifyInEachChoice(t *testing.T) {
	a, b := fn(1), fn(2)
	h := func(x impl.Term, y impl.Term) impl.Term { return fn(4, x, y) }
	f := func(kids ...impl.Term) impl.Term { return fn(5, kids...) }
	e := func(kids ...impl.Term) impl.Term { return fn(6, kids...) }
	x, y, z, last := vr(0), vr(1), vr(2), vr(3)
	first := []string{"X0=b;X1=a;", "X0=a;X1=b;"}
	behind := []string{"X4=a;X5=b;", "X4=b;X5=a;"}
	second := []string{"X2=b;X3=a;", "X2=a;X3=b;"}
	end := []string{"X6=a;X7=b", "X6=b;X7=a"}
	var four []string
	for i := range 2 {
		for k := range 2 {
			four = append(four, first[i]+second[k]+behind[i]+end[k])
		}
	}
	checkUnifyCases(t, map[string]unifyCase{
		"one behind the other":      {h(f(x, y), f(z, last)), h(f(a, b), f(a, b)), four},
		"of two functions":          {h(f(x, y), e(z, last)), h(f(a, b), e(a, b)), four},
		"the greatest is elsewhere": {h(f(x, y), vr(50)), h(f(a, b), a), []string{"X0=b;X1=a;X50=a;X51=a;X52=b", "X0=a;X1=b;X50=a;X51=b;X52=a"}},
		"the greatest is gone":      {h(vr(50), f(x, y)), h(a, f(a, b)), []string{"X0=b;X1=a;X50=a;X51=a;X52=b", "X0=a;X1=b;X50=a;X51=b;X52=a"}},
		"the greatest is behind":    {h(f(x, y), a), h(f(a, b), vr(50)), []string{"X0=b;X1=a;X50=a;X51=a;X52=b", "X0=a;X1=b;X50=a;X51=b;X52=a"}},
		"the greatest is alike":     {h(f(x, y), vr(50)), h(f(a, b), vr(50)), []string{"X0=b;X1=a;X51=a;X52=b", "X0=a;X1=b;X51=b;X52=a"}},
		"a choice without a way":    {h(f(x, a), x), h(f(y, b), b), []string{"X0=b;X1=a;X2=a;X3=b"}},
		"the last choice alone":     {h(f(x, a), e(x, x)), h(f(y, b), e(f(b, b), f(b, b))), []string{"X0=f(b,b);X1=f(a,b);X2=a;X3=b;X4=b;X5=f(b,b);X6=b"}},
	})
}

func TestUnifyRefusesTerms(t *testing.T) {
	s := orderSig()
	right := []impl.Term{fn(0), fn(1), vr(0), vr(99), fn(3, fn(1)), fn(5, fn(1), fn(2)), fn(5, alike(5, vr(0))...), partsOf(60)}
	for what, wrong := range wrongTerms() {
		t.Run(what, func(t *testing.T) {
			for _, x := range right {
				checkUnify(t, s, wrong, x, nil, 1)
				checkUnify(t, s, x, wrong, nil, 1)
				checkUnifyAll(t, s, []impl.Term{x, x, wrong}, []impl.Term{x, fn(1), x}, nil, 1)
				checkUnifyAll(t, s, []impl.Term{x, x, x, x}, []impl.Term{fn(1), x, x, wrong}, nil, 1)
				checkUnifyAll(t, s, []impl.Term{fn(1), wrong}, []impl.Term{fn(2), x}, nil, 1)
			}
			checkUnify(t, s, wrong, wrong, nil, 1)
		})
	}
	for f := range 8 {
		loop := loopedTerm(f)
		_, how := impl.Unify(s, loop, fn(1))
		_, again := impl.Unify(s, vr(0), loop)
		_, all := impl.UnifyAll(s, []impl.Term{fn(1), loop}, []impl.Term{fn(1), loop})
		if how != 1 || again != 1 || all != 1 || impl.Unifies(s, vr(0), loop) {
			t.Errorf("a term of %d without end is taken", f)
		}
	}
}

func TestUnifyRefusesFunctions(t *testing.T) {
	sigs := wrongSigs()
	sigs["odd blind"] = oddBlind()
	for what, sig := range sigs {
		t.Run(what, func(t *testing.T) {
			for _, x := range []impl.Term{fn(0), vr(0), fn(1), fn(5, fn(1), fn(2))} {
				checkUnify(t, sig, x, x, nil, 1)
				checkUnify(t, sig, vr(0), x, nil, 1)
				checkUnify(t, sig, x, vr(0), nil, 1)
			}
		})
	}
}

// TestUnifyOfOneFunction: there is nothing but tt and variables.
func TestUnifyOfOneFunction(t *testing.T) {
	tt := []impl.Sym{plain("tt", 0)}
	checkUnify(t, tt, fn(0), fn(0), [][]impl.Bind{nil}, 0)
	checkUnify(t, tt, vr(4), fn(0), [][]impl.Bind{bound(one(4, fn(0)))}, 0)
	checkUnify(t, tt, vr(4), vr(2), [][]impl.Bind{bound(one(4, vr(2)))}, 0)
	checkUnify(t, tt, fn(0), fn(1), nil, 1)
}

func TestUnifyAllOfLists(t *testing.T) {
	s := orderSig()
	a, b := fn(1), fn(2)
	x, y, z := vr(0), vr(1), vr(2)
	f := func(kids ...impl.Term) impl.Term { return fn(5, kids...) }
	g := func(x impl.Term) impl.Term { return fn(3, x) }
	list := func(terms ...impl.Term) []impl.Term { return terms }
	cases := map[string]struct {
		a, b []impl.Term
		want []string
	}{
		"one":                       {list(x), list(a), []string{"X0=a"}},
		"two":                       {list(x, y), list(a, g(x)), []string{"X0=a;X1=g(a)"}},
		"two, in order":             {list(x, y), list(y, x), []string{"X0=X1"}},
		"two, the other way":        {list(y, x), list(x, y), []string{"X1=X0"}},
		"two, not both":             {list(x, x), list(a, b), nil},
		"two, the first is not":     {list(a, x), list(b, a), nil},
		"two, it stands in":         {list(x, y), list(g(y), g(x)), nil},
		"two alike":                 {list(x, x), list(a, a), []string{"X0=a"}},
		"two, nothing is put":       {list(a, x), list(a, x), []string{""}},
		"four":                      {list(x, y, z, vr(3)), list(y, z, vr(3), a), []string{"X0=a;X1=a;X2=a;X3=a"}},
		"four, nothing is put":      {list(a, a, a, a), list(a, a, a, a), []string{""}},
		"four, the last is not":     {list(x, y, z, a), list(y, z, x, b), nil},
		"Kids ahead of the others":  {list(g(x), y), list(g(y), x), []string{"X0=X1"}},
		"a choice, then another":    {list(f(x, y), x), list(f(a, b), a), []string{"X0=a;X1=b;X2=b;X3=a"}},
		"a choice, then none":       {list(f(x, y), x), list(f(a, b), y), nil},
		"another, then no choice":   {list(x, f(x, y)), list(a, f(a, b)), []string{"X0=a;X1=b;X2=b"}},
		"two choices":               {list(f(x, y), f(x, z)), list(f(a, b), f(a, b)), []string{"X0=b;X1=a;X2=a;X3=a;X4=b;X5=a", "X0=a;X1=b;X2=b;X3=b;X4=a;X5=b"}},
		"the greatest is the first": {list(vr(70), f(x, y)), list(a, f(b, b)), []string{"X0=b;X1=b;X70=a;X71=b"}},
		"the greatest is the last":  {list(f(x, y), g(a)), list(f(b, b), g(vr(70))), []string{"X0=b;X1=b;X70=a;X71=b"}},
		"the greatest is not put":   {list(f(x, y), vr(70)), list(f(b, b), vr(70)), []string{"X0=b;X1=b;X71=b"}},
	}
	for what, c := range cases {
		t.Run(what, func(t *testing.T) {
			want, how := isUnifyAll(s, c.a, c.b)
			if how != 0 || !slices.Equal(wayTexts(s, want), c.want) {
				t.Fatalf("the document's sentence tells %q %d, not %q", wayTexts(s, want), how, c.want)
			}
			checkUnifyAll(t, s, c.a, c.b, want, 0)
		})
	}
}

// TestUnifyAllRefusesLists: that they are not as many, none, or more than 4, counts though each term is right, and though it takes too much.
func TestUnifyAllRefusesLists(t *testing.T) {
	s := orderSig()
	tooMuch := fn(5, alike(5, vr(0))...)
	for _, x := range []impl.Term{fn(1), vr(0), tooMuch} {
		for n := range 9 {
			for m := range 9 {
				xs, ys := alike(n, x), alike(m, fn(5, alike(5, fn(1))...))
				want, how := isUnifyAll(s, xs, ys)
				if how == 1 != (n != m || n == 0 || n > 4) {
					t.Errorf("of %d and %d the document's sentence tells %d", n, m, how)
				}
				checkUnifyAll(t, s, xs, ys, want, how)
			}
		}
	}
	checkUnifyAll(t, s, nil, nil, nil, 1)
	checkUnifyAll(t, s, []impl.Term{}, []impl.Term{}, nil, 1)
	checkUnifyAll(t, s, nil, []impl.Term{fn(1)}, nil, 1)
	checkUnifyAll(t, nil, []impl.Term{fn(0)}, []impl.Term{fn(0)}, nil, 1)
	checkUnifyAll(t, s, alike(4, fn(1)), alike(4, fn(1)), [][]impl.Bind{nil}, 0)
	checkUnifyAll(t, s, alike(5, fn(1)), alike(5, fn(1)), nil, 1)
	checkUnifyAll(t, s, alike(1000, vr(0)), alike(1000, fn(1)), nil, 1)
}

func TestSolved(t *testing.T) {
	s := orderSig()
	a, b := fn(1), fn(2)
	x, y := vr(0), vr(1)
	f := func(kids ...impl.Term) impl.Term { return fn(5, kids...) }
	h := func(x impl.Term, y impl.Term) impl.Term { return fn(4, x, y) }
	checkSolved(t, s, nil, a, a, true)
	checkSolved(t, s, nil, a, b, false)
	checkSolved(t, s, nil, x, y, false)
	checkSolved(t, s, puts(a), x, a, true)
	checkSolved(t, s, puts(a), a, x, true)
	checkSolved(t, s, puts(a), x, b, false)
	checkSolved(t, s, puts(y), x, y, true)
	checkSolved(t, s, puts(a, b), f(x, y), f(y, x), true)
	checkSolved(t, s, puts(a, b), h(x, y), h(y, x), false)
	checkSolved(t, s, puts(a, f(a, b)), f(x, y), f(a, a, b), true)
	checkSolved(t, s, puts(a, f(a, b)), f(x, y), f(a, b, b), false)
	checkSolved(t, s, bound(one(9, a)), x, x, true)
	// What is not SubOk solves nothing.
	checkSolved(t, s, puts(y, x), a, a, false)
	checkSolved(t, s, puts(fn(3, x)), a, a, false)
	checkSolved(t, s, bound(one(1, a), one(0, a)), x, a, false)
	checkSolved(t, s, bound(one(0, a), one(0, a)), x, a, false)
	checkSolved(t, s, bound(one(100, a)), a, a, false)
	checkSolved(t, s, puts(x), a, a, false)
	// It does not ask for terms that are TermOk.
	checkSolved(t, s, nil, f(b, a), f(a, b), true)
	checkSolved(t, s, puts(b), f(a, f(x, a)), f(b, a, a), true)
	checkSolved(t, s, nil, partsOf(100), partsOf(100), true)
	checkSolved(t, s, nil, partsOf(100), partsOf(101), false)
	checkSolved(t, s, puts(a), fn(9, x), fn(9, a), true)
	checkSolved(t, nil, nil, fn(9), fn(9), true)
	checkSolved(t, nil, puts(a), a, a, false)
	checkSolved(t, s, nil, deepTerm(3, 100000, a), deepTerm(3, 100000, a), true)
	checkSolved(t, s, puts(a), deepTerm(3, 100000, x), deepTerm(3, 100000, b), false)
}

func TestSolvedOfAll(t *testing.T) {
	solved := 0
	for _, sig := range [][]impl.Sym{orderSig(), twoBlind(), oddBlind(), nil} {
		terms := append(orderTerms(), nestedTerms()[:40]...)
		for i, u := range allSubs() {
			for k := i % 5; k < len(terms); k += 5 {
				x, y := terms[k], terms[(k*7+i)%len(terms)]
				if k%2 == 0 {
					y = isApplied(sig, u, x)
				}
				want := isSolved(sig, u, x, y)
				checkSolved(t, sig, u, x, y, want)
				if want {
					solved++
				}
			}
		}
	}
	if solved < 300 {
		t.Errorf("only %d are solved", solved)
	}
}

// TestUnifyOfAll holds many pairs of terms, which share variables, against the document's sentence.
func TestUnifyOfAll(t *testing.T) {
	s, terms := orderSig(), orderTerms()
	one, several := 0, 0
	for _, a := range terms {
		for _, b := range terms {
			switch n := checkUnifyModel(t, s, a, b); {
			case n == 1:
				one++
			case n > 1:
				several++
			}
		}
	}
	if one < 1000 || several < 200 {
		t.Errorf("%d are solved in one way, %d in several", one, several)
	}
}

// TestUnifyOfAllForms asks terms that are wrong, too, at functions that are.
func TestUnifyOfAllForms(t *testing.T) {
	terms := formTerms()
	for what, sig := range formSigs() {
		t.Run(what, func(t *testing.T) {
			for i, a := range terms {
				b := terms[(i*31+7)%len(terms)]
				if i%2 == 0 {
					b = terms[i%40]
				}
				checkUnifyModel(t, sig, a, b)
				checkAllModel(t, sig, []impl.Term{vr(i % 3), b}, []impl.Term{a, vr(1)})
			}
		})
	}
}
