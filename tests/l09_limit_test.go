package tests

import (
	"fmt"
	"math/rand"
	"slices"
	"testing"

	"loop.example/g00461/impl"
)

// counted is a blind function of variables from v on, the first as often as the first number tells.
func counted(f int, v int, numbers ...int) impl.Term {
	var kids []impl.Term
	for i, n := range numbers {
		kids = append(kids, alike(n, vr(v+i))...)
	}
	return fn(f, kids...)
}

// countedOthers is one of terms that are no variables.
func countedOthers(f int, numbers ...int) impl.Term {
	few := []impl.Term{fn(0), fn(1), fn(2), fn(3, fn(1)), fn(3, fn(2)), fn(3, fn(3, fn(1)))}
	var kids []impl.Term
	for i, n := range numbers {
		kids = append(kids, alike(n, few[i])...)
	}
	return fn(f, kids...)
}

// checkUnits: there are that many, by the document's sentence, too.
func checkUnits(t *testing.T, a impl.Term, b impl.Term, want int) {
	t.Helper()
	s := orderSig()
	if !isOk(s, a) || !isOk(s, b) {
		t.Fatalf("%v or %v is not right", a, b)
	}
	if got := checkUnifyModel(t, s, a, b); got != want {
		t.Errorf("there are %d solutions of %s and %s, not %d", got, impl.TermText(s, a), impl.TermText(s, b), want)
	}
}

// TestUnifyWhereBasisIsFalse: though a solution is there to be seen.
func TestUnifyWhereBasisIsFalse(t *testing.T) {
	s, a, b := orderSig(), fn(1), fn(2)
	f := func(kids ...impl.Term) impl.Term { return fn(5, kids...) }
	h := func(x impl.Term, y impl.Term) impl.Term { return fn(4, x, y) }
	behind := func(v int, n int) impl.Term {
		return oneForm(s, f(append([]impl.Term{a}, counted(5, v, slices.Repeat([]int{1}, n)...).Kids...)...))
	}
	checkUnits(t, counted(5, 0, 4), countedOthers(5, 4), 1)
	checkFuel(t, s, counted(5, 0, 5), countedOthers(5, 5))
	checkFuel(t, s, counted(5, 0, 5), counted(5, 9, 5))
	checkFuel(t, s, counted(5, 0, 5), countedOthers(5, 4))
	checkFuel(t, s, countedOthers(5, 4), counted(5, 0, 5))
	checkFuel(t, s, counted(5, 0, 2, 5), counted(5, 9, 2))
	checkFuel(t, s, counted(5, 0, 59), counted(5, 9, 59))
	// One of the five is in both: four are left.
	checkUnits(t, f(a, a, a, a, a), f(vr(0), a), 1)
	checkFuel(t, s, f(a, a, a, a, a, a), f(vr(0), a))
	// Five others of one, and six.
	checkUnits(t, behind(0, 5), f(vr(50), a), 1)
	checkUnits(t, f(vr(50), a), behind(0, 5), 1)
	checkFuel(t, s, behind(0, 6), f(vr(50), a))
	checkFuel(t, s, f(vr(50), a), behind(0, 6))
	checkFuel(t, s, countedOthers(5, 1, 1, 1, 1, 1, 1), f(vr(0), vr(0)))
	// What is looked at first counts.
	bad, worse := counted(5, 0, 5), countedOthers(5, 5)
	checkUnits(t, h(a, bad), h(b, worse), 0)
	checkFuel(t, s, h(bad, a), h(worse, b))
	checkUnits(t, h(vr(7), bad), h(fn(3, vr(7)), worse), 0)
	checkUnits(t, bad, fn(6, a, worse), 0)
	checkUnits(t, bad, fn(5, alike(5, vr(0))...), 1)
	checkUnits(t, f(bad.Kids...), f(vr(0), vr(0)), 0)
	// It counts in each choice, though others are solved.
	checkFuel(t, s, h(f(vr(0), vr(1)), f(vr(0), vr(2), vr(2), vr(2), vr(2), vr(2))), h(f(a, b), f(a, b, b, b, b, b)))
}

// TestUnifyAtMaxChoose: 8 ways are taken, 9 are not, though few of their choices would be.
func TestUnifyAtMaxChoose(t *testing.T) {
	s := orderSig()
	cases := []struct {
		a, b []int
		ways int
	}{
		{[]int{1, 1}, []int{1, 1, 1, 1}, 8},
		{[]int{1, 1}, []int{1, 1, 1, 2}, 9},
		{[]int{1, 1, 1}, []int{1, 1, 1}, 9},
		{[]int{1, 1}, []int{3, 3}, 8},
		{[]int{1, 1}, []int{2, 4}, 8},
		{[]int{1, 1}, []int{3, 4}, 9},
		{[]int{1, 1}, []int{1, 1, 3}, 8},
		{[]int{1, 1}, []int{1, 1, 4}, 9},
		{[]int{1, 1}, []int{1, 2, 2}, 8},
		{[]int{1, 1}, []int{1, 2, 3}, 9},
		{[]int{1, 3}, []int{4, 4}, 8},
		{[]int{1, 3}, []int{2, 2}, 9},
		{[]int{4}, []int{1, 1, 3}, 8},
		{[]int{4}, []int{1, 1, 2}, 9},
		{[]int{3}, []int{1, 1, 2, 3}, 8},
		{[]int{4}, []int{1, 1, 3, 4}, 9},
		{[]int{1, 2}, []int{1, 2, 2, 2}, 8},
		{[]int{2, 2}, []int{1, 3}, 9},
		{[]int{1, 1}, []int{1, 1, 1, 1, 1}, 10},
		{[]int{1, 1, 1, 1, 1}, []int{1, 1, 1, 1, 1}, 25},
		{[]int{2}, []int{1, 1, 1, 1}, 10},
	}
	for _, c := range cases {
		if list, _ := impl.Basis(c.a, c.b); len(list) != c.ways {
			t.Errorf("of %v and %v there are %d ways", c.a, c.b, len(list))
		}
		x, y := counted(5, 0, c.a...), countedOthers(5, c.b...)
		for _, pair := range [][2]impl.Term{{x, y}, {y, x}, {fn(3, x), fn(3, y)}} {
			if n := checkUnifyModel(t, s, pair[0], pair[1]); n < 0 != (c.ways > 8) {
				t.Errorf("of %v and %v there are %d solutions", c.a, c.b, n)
			}
		}
		if c.ways > 8 {
			checkFuel(t, s, x, counted(5, 9, c.b...))
		}
	}
	checkUnits(t, counted(5, 0, 1, 1), countedOthers(5, 1, 1, 1, 1), 14)
	checkUnits(t, counted(5, 0, 1, 1), countedOthers(5, 3, 3), 14)
}

// TestUnifyOfCounts holds blind functions of many counts against the document's sentence.
func TestUnifyOfCounts(t *testing.T) {
	s := orderSig()
	lists := append(append(listsOf(1), listsOf(2)...), []int{1, 1, 1}, []int{1, 1, 2}, []int{1, 2, 1}, []int{2, 1, 1}, []int{2, 2, 1}, []int{1, 1, 1, 1}, []int{1, 1, 1, 1, 1}, []int{1, 2, 3, 4}, []int{4, 4, 4, 4, 4})
	done, refused := 0, 0
	for _, a := range lists {
		for _, b := range lists {
			if len(a)*len(b) == 1 && a[0] == b[0] && a[0] == 1 {
				continue
			}
			for _, y := range []impl.Term{counted(5, 9, b...), countedOthers(5, b...), oneForm(s, fn(5, append(countedOthers(5, b...).Kids, vr(9))...))} {
				if x := counted(5, 0, a...); !isOk(s, x) || !isOk(s, y) {
					continue
				} else if checkUnifyModel(t, s, x, y) < 0 {
					refused++
				} else {
					done++
				}
			}
		}
	}
	if done < 500 || refused < 300 {
		t.Errorf("%d are done, %d are refused", done, refused)
	}
}

// TestUnifyAtMaxVar: variable 99 may be new, 100 may not; new ones go on from the greatest, wherever it stands, and from where the choice began.
func TestUnifyAtMaxVar(t *testing.T) {
	s, a, b := orderSig(), fn(1), fn(2)
	f := func(kids ...impl.Term) impl.Term { return fn(5, kids...) }
	k := func(x impl.Term, y impl.Term, z impl.Term) impl.Term { return fn(7, x, y, z) }
	x, y := vr(0), vr(1)
	cases := map[string]struct {
		a, b impl.Term
		// news are needed by one choice at most.
		news int
	}{
		"one":                        {f(x, a), f(a, b), 1},
		"two in each choice":         {f(x, y), f(a, b), 2},
		"two, then three":            {f(x, a), f(y, b), 3},
		"four in the last choice":    {f(x, y), f(vr(2), vr(3)), 4},
		"three of three":             {f(x, x), f(y, vr(2)), 3},
		"six of six":                 {f(x, y, vr(2)), f(vr(3), vr(4)), 6},
		"two and two":                {fn(4, f(x, y), f(vr(2), vr(3))), fn(4, f(a, b), f(a, b)), 4},
		"two, then one":              {fn(4, f(x, y), f(x, a)), fn(4, f(a, b), f(vr(2), b)), 3},
		"none is a solution":         {f(a, b), f(fn(0), fn(3, x)), 2},
		"one, and it is not":         {f(a, b), f(a, a), 1},
		"six are allowed alone":      {f(x, y), f(countedOthers(5, 1, 1, 1).Kids...), 3},
		"eight ways, two are chosen": {f(x, y), countedOthers(5, 3, 3), 2},
	}
	for what, c := range cases {
		t.Run(what, func(t *testing.T) {
			for more := range 3 {
				v := vr(99 - c.news + more)
				places := map[string][2]impl.Term{
					"ahead, not put":  {k(v, c.a, a), k(v, c.b, a)},
					"behind, not put": {k(a, c.a, v), k(a, c.b, v)},
					"put ahead":       {k(v, c.a, a), k(b, c.b, a)},
					"put behind":      {k(a, c.a, a), k(a, c.b, v)},
					"within":          {k(fn(3, v), c.a, a), k(vr(50), c.b, a)},
					"in the other":    {k(vr(60), c.a, a), k(v, c.b, a)},
				}
				for place, p := range places {
					n := checkUnifyModel(t, s, p[0], p[1])
					if n < 0 != (more > 0) {
						t.Errorf("%s: with %d new ones behind %d there are %d solutions", place, c.news, v.V, n)
					}
				}
				if n := checkAllModel(t, s, []impl.Term{a, c.a, v}, []impl.Term{a, c.b, v}); n < 0 != (more > 0) {
					t.Errorf("with %d new ones behind %d in another equation there are %d solutions", c.news, v.V, n)
				}
			}
		})
	}
	// Where nothing new is needed, or a choice is not allowed, it does not matter.
	checkUnits(t, k(vr(99), x, f(x, a)), k(a, y, f(y, a)), 1)
	checkUnits(t, k(a, f(x, a), vr(99)), k(b, f(a, b), a), 0)
	checkUnits(t, fn(4, vr(99), f(x, x)), fn(4, a, f(a, a, a, a, b)), 0)
	checkUnits(t, fn(4, vr(99), f(x, a)), fn(4, a, f(x, a, b)), 0)
	checkUnits(t, fn(4, vr(97), f(x, y)), fn(4, a, f(a, b)), 2)
	checkUnits(t, f(vr(99), a), f(x, b), -1)
	checkUnits(t, f(x, a), f(vr(99), b), -1)
	checkUnits(t, f(vr(96), a), f(x, b), 2)
	checkUnits(t, f(vr(97), a), f(x, b), -1)
}

// TestUnifyWhereWhatIsPutIsTooLarge: 60 parts are taken, 61 are not, when it is put, and by what is put later.
func TestUnifyWhereWhatIsPutIsTooLarge(t *testing.T) {
	a, b := fn(1), fn(2)
	g := func(x impl.Term) impl.Term { return fn(3, x) }
	h := func(x impl.Term, y impl.Term) impl.Term { return fn(4, x, y) }
	k := func(x impl.Term, y impl.Term, z impl.Term) impl.Term { return fn(7, x, y, z) }
	x, y, z := vr(0), vr(1), vr(2)
	cases := map[string]struct {
		a, b impl.Term
		want int
	}{
		"60 parts":                       {x, partsOf(60), 1},
		"60 by what is put":              {h(y, x), h(partsOf(29), k(y, y, a)), 1},
		"61 by what is put":              {h(y, x), h(partsOf(29), k(y, y, g(a))), -1},
		"62 by what is put":              {h(y, x), h(partsOf(30), k(y, y, a)), -1},
		"61, on the other side":          {h(y, k(y, y, g(a))), h(partsOf(29), x), -1},
		"60 by what is put later":        {h(x, y), h(k(y, y, a), partsOf(29)), 1},
		"61 by what is put later":        {h(x, y), h(k(y, y, g(a)), partsOf(29)), -1},
		"62 by what is put later":        {h(x, y), h(k(y, y, a), partsOf(30)), -1},
		"62, and then it fails":          {k(x, y, a), k(k(y, y, a), partsOf(30), b), -1},
		"62, when it has failed":         {k(a, x, y), k(b, k(y, y, a), partsOf(30)), 0},
		"by two that are put later":      {k(x, y, z), k(k(y, y, y), h(z, z), partsOf(10)), -1},
		"by two, 60":                     {k(x, y, z), k(h(y, y), k(z, z, g(a)), partsOf(13)), 1},
		"it stands in":                   {h(y, x), h(partsOf(30), k(y, y, g(x))), 0},
		"it is not put":                  {h(y, k(y, y, a)), h(partsOf(30), k(y, y, a)), 1},
		"it is not put, as it is not so": {h(y, k(y, y, a)), h(partsOf(30), k(y, y, b)), 0},
		"for a new one":                  {h(y, fn(5, x, a)), h(partsOf(30), fn(5, a, k(y, y, a))), -1},
		"for a new one, 60":              {h(y, fn(5, x, a)), h(partsOf(29), fn(5, a, k(y, y, a))), 1},
		"blind Kids join":                {h(y, x), h(fn(5, alike(30, a)...), fn(5, y, b)), 1},
		"blind Kids join, 60":            {h(y, x), h(fn(5, alike(20, a)...), fn(5, append(alike(2, y), alike(19, b)...)...)), 1},
		"blind Kids join, 61":            {h(y, x), h(fn(5, alike(20, a)...), fn(5, append(alike(2, y), alike(20, b)...)...)), -1},
		"blind Kids join later, 60":      {h(x, y), h(fn(5, append(alike(2, y), alike(19, b)...)...), fn(5, alike(20, a)...)), 1},
		"blind Kids join later, 61":      {h(x, y), h(fn(5, append(alike(2, y), alike(20, b)...)...), fn(5, alike(20, a)...)), -1},
		"in one choice alone":            {k(fn(5, x, y), z, a), k(fn(5, b, partsOf(28)), k(x, x, k(x, a, a)), a), -1},
	}
	for what, c := range cases {
		t.Run(what, func(t *testing.T) { checkUnits(t, c.a, c.b, c.want) })
	}
}

// moreWork is n equations to look at: functions of one, and a variable.
func moreWork(v int, n int) (impl.Term, impl.Term) {
	return deepTerm(3, n-1, vr(v)), deepTerm(3, n-1, fn(1))
}

// endings are what is looked at last, in each choice: each shape in which an equation can be.
func endings() map[string][2]impl.Term {
	a, b, x := fn(1), fn(2), vr(40)
	return map[string][2]impl.Term{
		"alike":                       {a, a},
		"alike variables":             {x, x},
		"alike by what is put":        {fn(4, x, x), fn(4, a, a)},
		"a variable":                  {x, a},
		"a variable behind":           {a, x},
		"a variable, it stands in":    {x, fn(3, x)},
		"a variable stands in behind": {fn(3, x), x},
		"two functions":               {a, b},
		"a function within":           {fn(3, a), fn(3, b)},
		"Kids":                        {fn(7, x, vr(41), vr(42)), fn(7, a, b, a)},
		"Kids, the second is not":     {fn(7, x, a, vr(42)), fn(7, a, b, a)},
		"Kids, some alike":            {fn(7, a, x, a), fn(7, a, b, a)},
		"blind, alike":                {fn(6, a, b), fn(6, a, b)},
		"blind, another blind one":    {fn(6, a, b), fn(5, a, b)},
		"blind, none left":            {fn(6, a, b), fn(6, a, b, b)},
		"blind, one left":             {fn(6, x, a), fn(6, a, b)},
		"blind, one left, not alike":  {fn(6, a, b), fn(6, a, a)},
		"blind, choices":              {fn(6, x, vr(41)), fn(6, a, a)},
		"blind, no choice is allowed": {fn(6, x, x), fn(6, a, a, a, b)},
	}
}

// TestUnifyAtMaxWork: 400 equations are looked at, one more is not.
func TestUnifyAtMaxWork(t *testing.T) {
	s := orderSig()
	for what, end := range endings() {
		t.Run(what, func(t *testing.T) {
			a, b := workAhead(t, end)
			for n := 1; n <= 40; n++ {
				x, y := moreWork(50, n)
				x, y = fn(4, x, a), fn(4, y, b)
				m := metUnits(s, []impl.Term{x}, []impl.Term{y}, 1000)
				if m.looked < 398 || m.looked > 402 {
					continue
				}
				if got := checkUnifyModel(t, s, x, y); m.ends || got < 0 != (m.looked > 400) {
					t.Errorf("at %d equations there are %d solutions", m.looked, got)
				}
				if got := checkAllModel(t, s, []impl.Term{x.Kids[0], a}, []impl.Term{y.Kids[0], b}); got < 0 != (m.looked-1 > 400) {
					t.Errorf("at %d equations there are %d solutions", m.looked-1, got)
				}
			}
		})
	}
}

// workAhead has as many equations ahead of an ending, in each of 25 choices, that 360 to 390 are looked at.
func workAhead(t *testing.T, end [2]impl.Term) (impl.Term, impl.Term) {
	t.Helper()
	for n := 1; n <= 12; n++ {
		x, y := moreWork(45, n)
		a := fn(7, counted(5, 0, 1, 1), x, end[0])
		b := fn(7, counted(5, 10, 1, 1, 1), y, end[1])
		if m := metUnits(orderSig(), []impl.Term{a}, []impl.Term{b}, 1000); m.looked >= 360 && m.looked < 390 {
			return a, b
		}
	}
	t.Fatal("there is no such number")
	return impl.Term{}, impl.Term{}
}

// TestUnifyAtMaxWorkOfSeveral: what is looked at counts for all equations together, and in each choice again.
func TestUnifyAtMaxWorkOfSeveral(t *testing.T) {
	s, a := orderSig(), fn(1)
	first, last := moreWork(70, 41)
	for n := 1; n <= 59; n++ {
		x, y := moreWork(71, n)
		xs := []impl.Term{first, counted(5, 0, 1, 1), x, fn(4, counted(6, 60, 1, 1, 1), a)}
		ys := []impl.Term{last, countedOthers(5, 1, 1), y, fn(4, counted(6, 65, 1, 1), a)}
		if m := metUnits(s, xs, ys, 1000); m.looked != 354+2*n {
			t.Errorf("with %d, %d are looked at", n, m.looked)
		}
		if got := checkAllModel(t, s, xs, ys); n <= 23 && got != 50 || n > 23 && got != -1 {
			t.Errorf("with %d there are %d solutions", n, got)
		}
	}
}

// TestUnifyOfFarTooMuch: it ends, however much there would be to look at.
func TestUnifyOfFarTooMuch(t *testing.T) {
	s := orderSig()
	checkFuel(t, s, counted(5, 0, 1, 1), counted(5, 9, 1, 1, 1, 1))
	checkFuel(t, s, fn(4, counted(5, 0, 1, 1), counted(6, 20, 1, 1)), fn(4, counted(5, 9, 1, 1, 1), counted(6, 30, 1, 1, 1)))
	many := func(v int, numbers ...int) []impl.Term {
		return []impl.Term{counted(5, v, numbers...), counted(5, v+5, numbers...), counted(6, v+10, numbers...), counted(6, v+15, numbers...)}
	}
	checkUnifyAll(t, s, many(0, 1, 1), many(20, 1, 1, 1), nil, 2)
	checkUnifyAll(t, s, many(0, 4), many(20, 1, 1), nil, 2)
	x, y := vr(0), vr(1)
	for range 3 {
		x, y = fn(7, x, x, x), fn(7, y, y, y)
	}
	if n := checkAllModel(t, s, []impl.Term{x}, []impl.Term{y}); n != 1 {
		t.Errorf("there are %d", n)
	}
	// Always larger: each is three of the next.
	checkUnifyAll(t, s, []impl.Term{fn(7, vr(0), vr(1), vr(2)), fn(7, vr(3), vr(4), vr(5))}, []impl.Term{fn(7, fn(7, vr(1), vr(1), vr(1)), fn(7, vr(2), vr(2), vr(2)), fn(7, vr(3), vr(3), vr(3))), fn(7, fn(7, vr(4), vr(4), vr(4)), fn(7, vr(5), vr(5), vr(5)), fn(1))}, nil, 2)
}

// TestUnifyAtMaxUnits: 60 are told, 61 are not.
func TestUnifyAtMaxUnits(t *testing.T) {
	s, a, b := orderSig(), fn(1), fn(2)
	f := func(kids ...impl.Term) impl.Term { return fn(5, kids...) }
	e := func(kids ...impl.Term) impl.Term { return fn(6, kids...) }
	g := func(x impl.Term) impl.Term { return fn(3, x) }
	list := func(terms ...impl.Term) []impl.Term { return terms }
	v := vr
	cases := map[string]struct {
		a, b []impl.Term
		want int
	}{
		"61":           {list(counted(5, 0, 1, 1, 2)), list(counted(5, 9, 1, 1)), 61},
		"61 behind":    {list(a, counted(5, 0, 1, 1, 2)), list(a, counted(5, 9, 1, 1)), 61},
		"6 times 10":   {list(f(v(0), v(1)), e(v(2), v(3))), list(f(fn(0), a, b), e(v(9), fn(0), a)), 60},
		"10 times 6":   {list(f(v(9), fn(0), a), e(v(2), v(3))), list(f(v(0), v(1)), e(fn(0), a, b)), 60},
		"5 times 13":   {list(counted(5, 0, 2), counted(6, 2, 3)), list(counted(5, 9, 1, 1), counted(6, 12, 1, 1)), 65},
		"7 times 7":    {list(counted(5, 0, 1, 1), counted(6, 2, 1, 1)), list(counted(5, 9, 1, 1), counted(6, 12, 1, 1)), 49},
		"60, together": {list(f(v(0), v(1), v(3), b), e(v(3), v(5), a)), list(f(v(4), g(a)), e(v(0), v(2))), 60},
		"60, in parts": {list(f(v(0), v(3), g(v(0))), e(v(3), v(5), a)), list(f(v(4), v(4)), e(v(1), v(2))), 60},
		"61, together": {list(f(v(1), g(a)), e(v(1), v(5), a, a)), list(f(v(4), v(5)), e(v(0), v(3))), 61},
		"61, at 399":   {list(f(v(2), fn(0), g(a)), e(v(1), v(4), v(5))), list(f(v(1), v(5)), e(v(0), v(3), v(5), g(a))), 61},
		"62, together": {list(f(v(0), v(3), fn(0)), e(v(2), v(4))), list(f(v(1), fn(0), fn(0), g(v(0))), e(v(0), v(5), g(v(0)))), 62},
	}
	for what, c := range cases {
		t.Run(what, func(t *testing.T) {
			m := metUnits(s, c.a, c.b, 1000)
			if m.ends || m.looked > 400 || len(onceEachWay(m.met)) != c.want {
				t.Fatalf("of %d equations %d are told", m.looked, len(m.met))
			}
			want := c.want
			if want > 60 {
				want = -1
			}
			if got := checkAllModel(t, s, c.a, c.b); got != want {
				t.Errorf("there are %d, not %d", got, want)
			}
			if len(c.a) == 2 {
				checkUnifyModel(t, s, fn(4, c.a...), fn(4, c.b...))
			}
		})
	}
}

// TestUnifyToldTwice: what is told twice is there once, and counts once.
func TestUnifyToldTwice(t *testing.T) {
	s := orderSig()
	x, y := vr(0), vr(1)
	h := func(x impl.Term, y impl.Term) impl.Term { return fn(4, x, y) }
	a, b := fn(5, h(x, x), h(x, y)), fn(5, h(y, x), h(y, y))
	cases := map[string]struct {
		a, b      impl.Term
		met, once int
	}{
		"alone":         {a, b, 2, 1},
		"then 5":        {h(a, counted(6, 10, 2)), h(b, counted(6, 20, 1, 1)), 10, 5},
		"5, then twice": {h(counted(6, 10, 2), a), h(counted(6, 20, 1, 1), b), 10, 5},
		"then 29":       {h(a, counted(6, 10, 4)), h(b, counted(6, 20, 1, 1)), 58, 29},
		"then 45":       {h(a, counted(6, 10, 2)), h(b, counted(6, 20, 1, 1, 1)), 90, 45},
	}
	for what, c := range cases {
		t.Run(what, func(t *testing.T) {
			m := metUnits(s, []impl.Term{c.a}, []impl.Term{c.b}, 1000)
			if len(m.met) != c.met || m.looked > 400 {
				t.Errorf("of %d equations %d are told", m.looked, len(m.met))
			}
			checkUnits(t, c.a, c.b, c.once)
		})
	}
}

// drawn are terms of the same few Kids, so that variables stand in several of them.
func drawn(r *rand.Rand, f int) impl.Term {
	few := []impl.Term{fn(0), fn(1), fn(2), vr(0), vr(1), vr(2), vr(3), vr(4), vr(5), fn(3, vr(0)), fn(3, vr(1)), fn(3, fn(1)), fn(4, vr(0), vr(2)), fn(6, vr(1), vr(3)), fn(5, vr(2), fn(1))}
	var kids []impl.Term
	for range 2 + r.Intn(3) {
		kids = append(kids, few[r.Intn(len(few))])
	}
	return oneForm(orderSig(), fn(f, kids...))
}

// TestUnifyAllOfMany holds equations that are drawn (the same ones each time) against the document's sentence.
func TestUnifyAllOfMany(t *testing.T) {
	s, r := orderSig(), rand.New(rand.NewSource(9))
	told := map[string]int{}
	for range 4000 {
		n := 1 + r.Intn(3)
		var a, b []impl.Term
		for range n {
			f := 5 + r.Intn(2)
			a, b = append(a, drawn(r, f)), append(b, drawn(r, f))
		}
		switch n := checkAllModel(t, s, a, b); {
		case n < 0:
			told["refused"]++
		case n > 1:
			told["several"]++
		default:
			told[fmt.Sprint(n)]++
		}
	}
	if told["refused"] < 300 || told["several"] < 300 || told["1"] < 20 || told["0"] < 300 {
		t.Errorf("there are %v", told)
	}
}
