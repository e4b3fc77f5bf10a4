package tests

import (
	"slices"
	"testing"

	"loop.example/g00461/impl"
)

// beneathOrSame is one of list that is not above x at any place.
func beneathOrSame(list [][]int, x []int) ([]int, bool) {
	for _, y := range list {
		if slices.Equal(y, x) || impl.Least(y, x) {
			return y, true
		}
	}
	return nil, false
}

// checkIsSum is promise 7 of one x that solves: of its basis one lies beneath it, and so on with what is left, until nothing is; all of them together are x.
func checkIsSum(t *testing.T, a []int, b []int, basis [][]int, x []int) {
	t.Helper()
	left := slices.Clone(x)
	var taken [][]int
	for !allNought(left) {
		y, there := beneathOrSame(basis, left)
		if !there || allNought(y) {
			t.Errorf("of %v and %v: none lies beneath %v, which is left of %v", a, b, left, x)
			return
		}
		taken = append(taken, y)
		for i := range left {
			left[i] -= y[i]
		}
		if !impl.Solves(a, b, left) {
			t.Errorf("of %v and %v: %v, which is left of %v, does not solve", a, b, left, x)
			return
		}
	}
	if sum := impl.Sum(taken, len(x)); !slices.Equal(sum, x) {
		t.Errorf("of %v and %v: %v come to %v, not %v", a, b, taken, sum, x)
	}
}

// checkIsBasis: each solves, is not all 0, none lies beneath another one, and they are in order, each once.
func checkIsBasis(t *testing.T, a []int, b []int, basis [][]int) {
	t.Helper()
	if len(basis) == 0 || len(basis) > impl.MaxBasis {
		t.Errorf("Basis(%v, %v) has %d", a, b, len(basis))
	}
	for i, x := range basis {
		if !impl.Solves(a, b, x) || !isSolution(a, b, x) || allNought(x) {
			t.Errorf("Basis(%v, %v) has %v", a, b, x)
		}
		if i > 0 && slices.Compare(basis[i-1], x) >= 0 {
			t.Errorf("Basis(%v, %v) has %v ahead of %v", a, b, basis[i-1], x)
		}
		for _, y := range basis {
			if impl.Least(y, x) {
				t.Errorf("Basis(%v, %v) has %v, and %v beneath it", a, b, x, y)
			}
		}
	}
}

// TestEachWayIsASum is promise 7: of all ways up to numbers above what any of a basis has.
func TestEachWayIsASum(t *testing.T) {
	lists := slices.Concat(listsOf(1), listsOf(2), listsOf(3))
	for _, a := range lists {
		for _, b := range lists {
			most := map[int]int{2: 12, 3: 8, 4: 5}[len(a)+len(b)]
			if most == 0 {
				continue
			}
			basis, ok := impl.Basis(a, b)
			if !ok {
				t.Errorf("Basis(%v, %v) is not told", a, b)
				continue
			}
			checkIsBasis(t, a, b, basis)
			solutions := solutionsUpTo(a, b, most)
			if !sameLists(basis, leastOf(solutions)) {
				t.Errorf("Basis(%v, %v) is %v, not %v", a, b, basis, leastOf(solutions))
			}
			for _, x := range solutions {
				checkIsSum(t, a, b, basis, x)
			}
		}
	}
}

// TestSumsAreWays: whichever of a basis are taken, what they come to solves.
func TestSumsAreWays(t *testing.T) {
	for _, c := range [][2][]int{{{2}, {1, 1}}, {{1, 1}, {1, 1}}, {{2, 3}, {3, 2}}, {{4}, {3, 1}}, {{1, 2, 3}, {4}}} {
		basis, _ := impl.Basis(c[0], c[1])
		for set := range 1 << len(basis) {
			var taken [][]int
			for i, x := range basis {
				if set>>i&1 == 1 {
					taken = append(taken, x)
				}
			}
			sum := impl.Sum(taken, len(c[0])+len(c[1]))
			if !impl.Solves(c[0], c[1], sum) || allNought(sum) != (set == 0) {
				t.Errorf("of %v and %v: %v come to %v", c[0], c[1], taken, sum)
			}
		}
	}
}

// TestEachLongWayIsASum: what b is to come to is dealt out from its first number on; b ends with a 1, which takes the rest.
func TestEachLongWayIsASum(t *testing.T) {
	sides := [][2][]int{
		{{1, 1, 1, 1, 1}, {1, 1, 1, 1, 1}},
		{{2, 1, 2, 1, 1}, {2, 2, 1, 1}},
		{{3, 3, 3, 3}, {3, 3, 3, 1}},
		{{1, 2, 1, 1}, {4, 2, 1}},
		{{4, 1, 4}, {3, 2, 1}},
	}
	for _, c := range sides {
		a, b := c[0], c[1]
		basis, ok := impl.Basis(a, b)
		if !ok {
			t.Errorf("Basis(%v, %v) is not told", a, b)
			continue
		}
		checkIsBasis(t, a, b, basis)
		eachList(len(a), 0, 3, func(x []int) {
			for deal := range 4 {
				checkIsSum(t, a, b, basis, slices.Concat(x, dealt(b, smallSum(a, x), deal)))
			}
		})
	}
}

func dealt(b []int, sum int, deal int) []int {
	out := make([]int, len(b))
	for i := range len(b) - 1 {
		out[i] = min(sum/b[i], (deal+i)%4)
		sum -= out[i] * b[i]
	}
	out[len(b)-1] = sum
	return out
}

// TestBasisOtherWayRound: with a and b changed, each way has its numbers of b first.
func TestBasisOtherWayRound(t *testing.T) {
	lists := slices.Concat(listsOf(1), listsOf(2), listsOf(3)[:20], listsOf(5)[:9])
	for _, a := range lists {
		for _, b := range lists {
			basis, ok := impl.Basis(a, b)
			other, otherOk := impl.Basis(b, a)
			for i, x := range other {
				other[i] = slices.Concat(x[len(b):], x[:len(b)])
			}
			slices.SortFunc(other, slices.Compare)
			if ok != otherOk || !sameLists(basis, other) {
				t.Errorf("Basis(%v, %v) is %v %v, the other way round %v %v", a, b, basis, ok, other, otherOk)
			}
		}
	}
}
