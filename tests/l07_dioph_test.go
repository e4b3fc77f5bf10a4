package tests

import (
	"math"
	"slices"
	"testing"

	"loop.example/g00461/impl"
)

func TestWholeNumberLimits(t *testing.T) {
	if impl.MaxTerms != 5 || impl.MaxBasis != 60 {
		t.Errorf("MaxTerms is %d, MaxBasis %d", impl.MaxTerms, impl.MaxBasis)
	}
}

func TestSolves(t *testing.T) {
	cases := map[string]struct {
		a, b, x []int
		want    bool
	}{
		"one of each":          {[]int{1}, []int{1}, []int{1, 1}, true},
		"one is more":          {[]int{1}, []int{1}, []int{2, 1}, false},
		"one is less":          {[]int{1}, []int{1}, []int{1, 2}, false},
		"two of one":           {[]int{2}, []int{1, 1}, []int{1, 1, 1}, true},
		"two of one alone":     {[]int{2}, []int{1, 1}, []int{1, 0, 2}, true},
		"those of a first":     {[]int{2}, []int{3}, []int{3, 2}, true},
		"those of b first":     {[]int{2}, []int{3}, []int{2, 3}, false},
		"not least":            {[]int{2}, []int{3}, []int{6, 4}, true},
		"many":                 {[]int{1, 2, 3, 4}, []int{4, 3, 2, 1}, []int{1, 2, 3, 4, 4, 3, 2, 1}, true},
		"many, not one":        {[]int{1, 2, 3, 4}, []int{4, 3, 2, 1}, []int{1, 2, 3, 4, 4, 3, 2, 2}, false},
		"more than MaxTerms":   {[]int{1, 1, 1, 1, 1, 1, 1}, []int{7}, []int{1, 1, 1, 1, 1, 1, 1, 1}, true},
		"numbers above 4":      {[]int{100}, []int{25, 5}, []int{1, 3, 5}, true},
		"all 0":                {[]int{2, 3}, []int{4}, []int{0, 0, 0}, true},
		"all 0 of one":         {[]int{1}, []int{1}, []int{0, 0}, true},
		"too short":            {[]int{1}, []int{1}, []int{1}, false},
		"too short, all 0":     {[]int{1}, []int{1}, []int{0}, false},
		"none":                 {[]int{1}, []int{1}, nil, false},
		"as long as a":         {[]int{1, 1}, []int{1, 1}, []int{0, 0}, false},
		"too long":             {[]int{1}, []int{1}, []int{1, 1, 0}, false},
		"too long, all 0":      {[]int{1}, []int{1}, []int{0, 0, 0}, false},
		"below 0":              {[]int{1}, []int{1}, []int{-1, -1}, false},
		"below 0 first":        {[]int{0, 1}, []int{1}, []int{-1, 1, 1}, false},
		"below 0 between":      {[]int{1, 1}, []int{1}, []int{3, -1, 2}, false},
		"below 0 last":         {[]int{1}, []int{1, 0}, []int{1, 1, -1}, false},
		"the least number":     {[]int{0}, []int{0}, []int{0, math.MinInt}, false},
		"no a, no b":           {nil, nil, nil, true},
		"no a, no b, empty":    {[]int{}, []int{}, []int{}, true},
		"no a, no b, but x":    {nil, nil, []int{0}, false},
		"no a":                 {nil, []int{1}, []int{1}, false},
		"no a, 0":              {nil, []int{1}, []int{0}, true},
		"no a, none":           {nil, []int{1}, nil, false},
		"no b":                 {[]int{1}, nil, []int{1}, false},
		"no b, 0":              {[]int{1, 4}, nil, []int{0, 0}, true},
		"no b, below 0":        {[]int{1, -1}, nil, []int{2, 2}, true},
		"numbers 0":            {[]int{0}, []int{0}, []int{3, 5}, true},
		"a number 0":           {[]int{0, 1}, []int{1}, []int{9, 2, 2}, true},
		"numbers below 0":      {[]int{-2}, []int{-1}, []int{1, 2}, true},
		"below 0 and above":    {[]int{-2}, []int{2}, []int{1, 1}, false},
		"below 0, together":    {[]int{-2, 3}, []int{1}, []int{1, 1, 1}, true},
		"below 0, as unsigned": {[]int{-1}, []int{1}, []int{1, math.MaxInt}, false},
	}
	for what, c := range cases {
		t.Run(what, func(t *testing.T) {
			if isSolution(c.a, c.b, c.x) != c.want {
				t.Fatal("the document's sentence tells otherwise")
			}
			checkSolves(t, c.a, c.b, c.x, c.want)
		})
	}
}

// TestSolvesOfGreatNumbers: an int that goes round, one of 64 bits or one of 128, would tell of others that they are the same.
func TestSolvesOfGreatNumbers(t *testing.T) {
	most, least := math.MaxInt, math.MinInt
	half, eights := 1<<62, slices.Repeat([]int{1 << 62}, 8)
	cases := map[string]struct {
		a, b, x []int
		want    bool
	}{
		"a product is 2 by 64":            {[]int{half}, []int{1}, []int{4, 0}, false},
		"a product is 2 by 64, b":         {[]int{1}, []int{half}, []int{0, 4}, false},
		"products are 2 by 63":            {[]int{half}, []int{half}, []int{2, 2}, true},
		"a product below 0 by its round":  {[]int{half}, []int{least}, []int{2, 1}, false},
		"a sum is 2 by 64":                {[]int{most, most, 2}, []int{1}, []int{1, 1, 1, 0}, false},
		"a sum is 2 by 64, both":          {[]int{most, most, 2}, []int{half}, []int{1, 1, 1, 4}, true},
		"a sum is 2 by 63, one is below":  {[]int{most, 1}, []int{least}, []int{1, 1, 1}, false},
		"sums below 0 are 2 by 64":        {[]int{least, least}, []int{1}, []int{1, 1, 0}, false},
		"above on the way":                {[]int{most, 1, least}, []int{1}, []int{1, 1, 1, 0}, true},
		"below on the way":                {[]int{least, -1, most, 2}, []int{1}, []int{1, 1, 1, 1, 0}, true},
		"the greatest of all":             {[]int{most}, []int{most}, []int{most, most}, true},
		"the greatest of all but one":     {[]int{most}, []int{most}, []int{most, most - 1}, false},
		"the greatest, the other way":     {[]int{most}, []int{most - 1}, []int{most - 1, most}, true},
		"the least of all":                {[]int{least}, []int{least}, []int{most, most}, true},
		"the least of all but one":        {[]int{least}, []int{least + 1}, []int{most, most}, false},
		"the least, twice as much":        {[]int{least}, []int{-half}, []int{1, 2}, true},
		"the least with what takes it up": {[]int{least, most, 1}, []int{3}, []int{most, most, most, 0}, true},
		"the least with one less":         {[]int{least, most, 1}, []int{3}, []int{most, most, most - 1, 0}, false},
		"1 more than a float holds":       {[]int{1<<53 + 1}, []int{1 << 53}, []int{1, 1}, false},
		"products are 2 by 128":           {slices.Repeat([]int{least}, 8), []int{1}, append(slices.Clone(eights), 0), false},
		"products are 2 by 127":           {slices.Repeat([]int{half}, 8), slices.Repeat([]int{least}, 4), slices.Concat(eights, eights[:4]), false},
		"products are 2 by 128, both":     {slices.Repeat([]int{least}, 8), slices.Repeat([]int{least}, 8), slices.Concat(eights, eights), true},
		"one is 2 by 128 more":            {slices.Repeat([]int{half}, 17), []int{half}, append(slices.Repeat([]int{half}, 17), half), false},
	}
	for what, c := range cases {
		t.Run(what, func(t *testing.T) {
			if isSolution(c.a, c.b, c.x) != c.want {
				t.Fatal("the document's sentence tells otherwise")
			}
			checkSolves(t, c.a, c.b, c.x, c.want)
		})
	}
}

func TestSolvesOfAll(t *testing.T) {
	numbers := []int{math.MinInt, math.MinInt + 1, -1 << 62, -1 << 32, -3, -1, 0, 1, 2, 1 << 31, 1 << 32, 1<<53 + 1, 1 << 62, 3 << 61, math.MaxInt - 1, math.MaxInt}
	solved := 0
	for _, m := range numbers {
		for _, n := range numbers {
			for _, x := range numbers {
				for _, y := range numbers {
					for _, c := range [][3][]int{{{m}, {n}, {x, y}}, {{m, n}, {-2}, {x, y, 1 << 62}}, {{m}, {2, n}, {x, y, y}}} {
						want := isSolution(c[0], c[1], c[2])
						if want {
							solved++
						}
						if got := impl.Solves(c[0], c[1], c[2]); got != want {
							t.Errorf("Solves(%v, %v, %v) is %v", c[0], c[1], c[2], got)
						}
					}
				}
			}
		}
	}
	if solved < 1000 {
		t.Errorf("only %d solve", solved)
	}
}

func TestLeast(t *testing.T) {
	cases := map[string]struct {
		x, y []int
		want bool
	}{
		"below at the first":      {[]int{0, 1}, []int{1, 1}, true},
		"below at the last":       {[]int{1, 0}, []int{1, 1}, true},
		"below at all":            {[]int{0, 1, 2}, []int{1, 2, 3}, true},
		"below by much":           {[]int{0, 0}, []int{9, 0}, true},
		"one alone":               {[]int{3}, []int{4}, true},
		"one alone, above":        {[]int{4}, []int{3}, false},
		"the same":                {[]int{1}, []int{1}, false},
		"the same two":            {[]int{4, 0}, []int{4, 0}, false},
		"all 0":                   {[]int{0, 0}, []int{0, 0}, false},
		"above at all":            {[]int{1, 1}, []int{0, 0}, false},
		"above at one":            {[]int{1, 1}, []int{1, 0}, false},
		"above first, below last": {[]int{2, 0}, []int{1, 9}, false},
		"below first, above last": {[]int{0, 2}, []int{9, 1}, false},
		"above between":           {[]int{0, 2, 0}, []int{1, 1, 1}, false},
		"none":                    {nil, nil, false},
		"none, empty":             {[]int{}, nil, false},
		"none and one":            {nil, []int{1}, false},
		"one and none":            {[]int{0}, nil, false},
		"one less":                {[]int{0}, []int{1, 1}, false},
		"one more":                {[]int{0, 0}, []int{1}, false},
		"one more, below":         {[]int{0, -1}, []int{1}, false},
		"below 0":                 {[]int{-2, -1}, []int{-1, -1}, true},
		"below 0, above":          {[]int{-1}, []int{-2}, false},
		"the least":               {[]int{math.MinInt}, []int{math.MaxInt}, true},
		"the greatest":            {[]int{math.MaxInt}, []int{math.MinInt}, false},
		"the greatest, the same":  {[]int{math.MaxInt}, []int{math.MaxInt}, false},
		"the least beside":        {[]int{math.MinInt, 1}, []int{math.MaxInt, 0}, false},
	}
	for what, c := range cases {
		t.Run(what, func(t *testing.T) {
			if isLeast(c.x, c.y) != c.want {
				t.Fatal("the document's sentence tells otherwise")
			}
			checkLeast(t, c.x, c.y, c.want)
		})
	}
}

func TestLeastOfAll(t *testing.T) {
	all := [][]int{nil}
	for n := 1; n <= 3; n++ {
		eachList(n, -1, 2, func(x []int) { all = append(all, slices.Clone(x)) })
	}
	for _, x := range all {
		for _, y := range all {
			checkLeast(t, x, y, isLeast(x, y))
		}
	}
}

func TestBasisOf(t *testing.T) {
	cases := map[string]struct {
		a, b []int
		want [][]int
	}{
		"one each":         {[]int{1}, []int{1}, [][]int{{1, 1}}},
		"alike ones":       {[]int{4}, []int{4}, [][]int{{1, 1}}},
		"2 and 3":          {[]int{2}, []int{3}, [][]int{{3, 2}}},
		"4 and 3":          {[]int{4}, []int{3}, [][]int{{3, 4}}},
		"4 and 2":          {[]int{4}, []int{2}, [][]int{{1, 2}}},
		"1 and 4":          {[]int{1}, []int{4}, [][]int{{4, 1}}},
		"2 and two":        {[]int{2}, []int{1, 1}, [][]int{{1, 0, 2}, {1, 1, 1}, {1, 2, 0}}},
		"two and 2":        {[]int{1, 1}, []int{2}, [][]int{{0, 2, 1}, {1, 1, 1}, {2, 0, 1}}},
		"two each":         {[]int{1, 1}, []int{1, 1}, [][]int{{0, 1, 0, 1}, {0, 1, 1, 0}, {1, 0, 0, 1}, {1, 0, 1, 0}}},
		"1, 2 and 3":       {[]int{1, 2}, []int{3}, [][]int{{0, 3, 2}, {1, 1, 1}, {3, 0, 1}}},
		"1, 2 and 2":       {[]int{1, 2}, []int{2}, [][]int{{0, 1, 1}, {2, 0, 1}}},
		"2, 1 and 2":       {[]int{2, 1}, []int{2}, [][]int{{0, 2, 1}, {1, 0, 1}}},
		"one and MaxTerms": {[]int{1}, []int{1, 1, 1, 1, 1}, [][]int{{1, 0, 0, 0, 0, 1}, {1, 0, 0, 0, 1, 0}, {1, 0, 0, 1, 0, 0}, {1, 0, 1, 0, 0, 0}, {1, 1, 0, 0, 0, 0}}},
		"MaxTerms and one": {[]int{4, 4, 4, 4, 4}, []int{4}, [][]int{{0, 0, 0, 0, 1, 1}, {0, 0, 0, 1, 0, 1}, {0, 0, 1, 0, 0, 1}, {0, 1, 0, 0, 0, 1}, {1, 0, 0, 0, 0, 1}}},
		"both are by twos": {[]int{2, 4}, []int{2, 4}, [][]int{{0, 1, 0, 1}, {0, 1, 2, 0}, {1, 0, 1, 0}, {2, 0, 0, 1}}},
		"both are 2 and 3": {[]int{2, 3}, []int{3, 2}, [][]int{{0, 1, 1, 0}, {0, 2, 0, 3}, {1, 0, 0, 1}, {3, 0, 2, 0}}},
		"3 and 1, 2":       {[]int{3}, []int{1, 2}, [][]int{{1, 1, 1}, {1, 3, 0}, {2, 0, 3}}},
		"4 and 3, 1":       {[]int{4}, []int{3, 1}, [][]int{{1, 0, 4}, {1, 1, 1}, {3, 4, 0}}},
	}
	for what, c := range cases {
		t.Run(what, func(t *testing.T) {
			checkBasis(t, c.a, c.b, c.want, true)
		})
	}
}

func TestBasisRefuses(t *testing.T) {
	right := [][]int{{1}, {4}, {1, 1, 1, 1, 1}, {4, 3, 2, 1}}
	wrong := map[string][]int{
		"nil":                    nil,
		"none":                   {},
		"one more than MaxTerms": {1, 1, 1, 1, 1, 1},
		"many":                   slices.Repeat([]int{2}, 1000),
		"0":                      {0},
		"0 first":                {0, 1},
		"0 last":                 {4, 4, 4, 4, 0},
		"5":                      {5},
		"5 first":                {5, 1},
		"5 between":              {1, 5, 1},
		"5 last":                 {1, 1, 1, 1, 5},
		"-1":                     {-1},
		"-1 last":                {1, -1},
		"-4":                     {-4},
		"the least":              {math.MinInt},
		"the greatest":           {math.MaxInt},
		"2 by 32 and 1":          {1<<32 + 1},
		"2 by 8 and 1":           {257},
	}
	for what, x := range wrong {
		t.Run(what, func(t *testing.T) {
			for _, y := range right {
				checkBasis(t, x, y, nil, false)
				checkBasis(t, y, x, nil, false)
			}
			for _, y := range wrong {
				checkBasis(t, x, y, nil, false)
			}
		})
	}
}

// TestBasisTakesTheLimits: each is just not refused.
func TestBasisTakesTheLimits(t *testing.T) {
	for _, c := range [][2][]int{{{1}, {1}}, {{4}, {4}}, {{1}, {4}}, {{1, 1, 1, 1, 1}, {1, 1, 1, 1, 1}}, {{4, 4, 4, 4, 4}, {4, 4, 4, 4, 4}}, {{1, 2, 3, 4}, {4}}} {
		checkBasis(t, c[0], c[1], climbed(c[0], c[1]), true)
	}
}

// checkLimited holds Basis against all least solutions that there are, few or many.
func checkLimited(t *testing.T, a []int, b []int, all [][]int) {
	t.Helper()
	if len(all) > 60 {
		checkBasis(t, a, b, nil, false)
	} else {
		checkBasis(t, a, b, all, true)
	}
}

// TestBasisOfSmall asks all lists of one to three numbers, in all their orders.
func TestBasisOfSmall(t *testing.T) {
	small := slices.Concat(listsOf(1), listsOf(2), listsOf(3))
	for i, a := range small {
		for k, b := range small {
			if len(a)+len(b) <= 4 || (i+k)%7 == 0 {
				checkLimited(t, a, b, climbed(a, b))
			}
		}
	}
}

func TestBasisOfLong(t *testing.T) {
	four, five := listsOf(4), listsOf(5)
	asked := 0
	for i := 0; i < len(five); i += 41 {
		for _, b := range [][]int{{1 + i%4}, {4, 1 + i%3}, {1 + i%2, 2, 1}, four[i%256], five[(7*i)%1024]} {
			a := five[i]
			all := climbed(a, b)
			if len(all) <= 60 {
				asked++
			}
			checkLimited(t, a, b, all)
			checkLimited(t, b, a, climbed(b, a))
		}
	}
	if asked < 20 {
		t.Errorf("only %d are told", asked)
	}
}

// TestBasisAtItsLimit: 60 are told, 61 are not.
func TestBasisAtItsLimit(t *testing.T) {
	cases := []struct {
		a, b []int
		many int
	}{
		{[]int{2, 2}, []int{3, 3, 3, 3, 3}, 60},
		{[]int{1, 4, 4}, []int{1, 1, 3, 3}, 60},
		{[]int{2, 2, 2}, []int{3, 3, 3}, 60},
		{[]int{2, 3, 4}, []int{1, 1, 1, 2, 4}, 60},
		{[]int{4, 3, 2, 1}, []int{3, 1, 3, 1, 4}, 60},
		{[]int{1, 2, 2, 2, 4}, []int{2, 3, 4, 4, 4}, 60},
		{[]int{3, 4}, []int{1, 1, 1, 1, 3}, 61},
		{[]int{2, 3, 4}, []int{1, 1, 4, 4, 4}, 61},
		{[]int{4, 3, 2, 1}, []int{3, 3, 2, 1, 1}, 61},
		{[]int{2, 2, 2, 3, 4}, []int{2, 2, 3, 4, 4}, 61},
		{[]int{4, 4}, []int{1, 1, 1, 3, 3}, 62},
		{[]int{4}, []int{1, 1, 1, 1, 1}, 70},
		{[]int{4, 4, 4, 4, 4}, []int{3, 3, 3, 3, 3}, 2450},
	}
	for _, c := range cases {
		for _, sides := range [][2][]int{{c.a, c.b}, {c.b, c.a}} {
			all := climbed(sides[0], sides[1])
			if len(all) != c.many {
				t.Errorf("of %v and %v there are %d", sides[0], sides[1], len(all))
			}
			checkLimited(t, sides[0], sides[1], all)
		}
	}
}

// nought is n numbers 0.
func nought(n int) []int { return make([]int, n) }

func TestSum(t *testing.T) {
	cases := map[string]struct {
		list [][]int
		n    int
		want []int
	}{
		"nil":                    {nil, 3, nought(3)},
		"none":                   {[][]int{}, 1, nought(1)},
		"one":                    {[][]int{{1, 2, 3}}, 3, []int{1, 2, 3}},
		"two":                    {[][]int{{1, 2, 3}, {10, 20, 30}}, 3, []int{11, 22, 33}},
		"one is shorter":         {[][]int{{1, 2}, {3}}, 3, []int{4, 2, 0}},
		"the first is shorter":   {[][]int{{3}, {1, 2}}, 2, []int{4, 2}},
		"all are shorter":        {[][]int{{1}, {2}}, 4, []int{3, 0, 0, 0}},
		"one is longer":          {[][]int{{1, 2, 3}, {4, 5}}, 2, []int{5, 7}},
		"all are longer":         {[][]int{{1, 2, 3}, {4, 5, 6, 7}}, 1, []int{5}},
		"shorter and longer":     {[][]int{{1}, {1, 1, 1, 1}, nil, {1, 1}}, 3, []int{3, 2, 1}},
		"empty ones":             {[][]int{nil, {}, nil}, 2, nought(2)},
		"one three times":        {[][]int{{1, 0, 2}, {1, 0, 2}, {1, 0, 2}}, 3, []int{3, 0, 6}},
		"below 0":                {[][]int{{-1, 5}, {-2, -5}}, 2, []int{-3, 0}},
		"1":                      {[][]int{{7, 8}, {9}}, 1, []int{16}},
		"0":                      {[][]int{{7, 8}, {9}}, 0, nil},
		"0 of none":              {nil, 0, nil},
		"-1":                     {[][]int{{7, 8}, {9}}, -1, nil},
		"the least":              {[][]int{{7, 8}, {9}}, math.MinInt, nil},
		"the greatest":           {[][]int{{7, 8}, {9}}, math.MaxInt, nil},
		"1000":                   {[][]int{{7, 8}, {9}}, 1000, append([]int{16, 8}, nought(998)...)},
		"1000 of none":           {nil, 1000, nought(1000)},
		"1001":                   {[][]int{{7, 8}, {9}}, 1001, nil},
		"1001 of none":           {nil, 1001, nil},
		"1000 of 1001":           {[][]int{append(nought(999), 5, 6), append(nought(999), 7, 8)}, 1000, append(nought(999), 12)},
		"1001 of 1001":           {[][]int{append(nought(1000), 6)}, 1001, nil},
		"999 of 1000":            {[][]int{append(nought(998), 5, 6)}, 999, append(nought(998), 5)},
		"the greatest there is":  {[][]int{{math.MaxInt - 1}, {1}}, 1, []int{math.MaxInt}},
		"the least there is":     {[][]int{{math.MinInt + 1}, {-1}}, 1, []int{math.MinInt}},
		"greater on the way":     {[][]int{{math.MaxInt}, {math.MaxInt}, {math.MinInt}, {math.MinInt}}, 1, []int{-2}},
		"less on the way":        {[][]int{{math.MinInt, 1}, {math.MinInt, 1}, {math.MaxInt, 1}, {math.MaxInt, 1}, {3}}, 2, []int{1, 4}},
		"too great, goes round":  {[][]int{{math.MaxInt, 1}, {1, 1}}, 2, []int{math.MinInt, 2}},
		"too great, as above":    {[][]int{{math.MaxInt, math.MaxInt}, {math.MaxInt, 0}}, 2, []int{-2, math.MaxInt}},
		"too little, goes round": {[][]int{{0, math.MinInt}, {0, -1}}, 2, []int{0, math.MaxInt}},
	}
	for what, c := range cases {
		t.Run(what, func(t *testing.T) { checkSum(t, c.list, c.n, c.want) })
	}
}

// TestSumOfAll: place by place, whatever the lengths; what lies behind a list, in its spare room, is not of it.
func TestSumOfAll(t *testing.T) {
	lists := [][]int{nil, {1}, {2, 30}, {4, 50, 600}, {-7, 0, 7, 7000}, {math.MaxInt, 1, math.MinInt}}
	for _, x := range lists {
		for _, y := range lists {
			for _, z := range lists {
				for n := range 7 {
					want := nought(n)
					for i := range want {
						for _, list := range [][]int{x, y, z} {
							if i < len(list) {
								want[i] += list[i]
							}
						}
					}
					checkSum(t, [][]int{x, y, z}, n, want)
				}
			}
		}
	}
}
