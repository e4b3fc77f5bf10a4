package tests

import (
	"fmt"
	"math/big"
	"slices"
	"testing"

	"loop.example/g00461/impl"
)

// bigSum is exact, however great the numbers are.
func bigSum(numbers []int, x []int) *big.Int {
	sum := new(big.Int)
	for i, n := range numbers {
		sum.Add(sum, new(big.Int).Mul(big.NewInt(int64(n)), big.NewInt(int64(x[i]))))
	}
	return sum
}

// isSolution is the document's sentence on Solves, word by word.
func isSolution(a []int, b []int, x []int) bool {
	if len(x) != len(a)+len(b) {
		return false
	}
	for _, n := range x {
		if n < 0 {
			return false
		}
	}
	return bigSum(a, x[:len(a)]).Cmp(bigSum(b, x[len(a):])) == 0
}

// isLeast is the document's sentence on Least, word by word.
func isLeast(x []int, y []int) bool {
	if len(x) != len(y) {
		return false
	}
	above, below := 0, 0
	for i := range x {
		if x[i] > y[i] {
			above++
		}
		if x[i] < y[i] {
			below++
		}
	}
	return above == 0 && below >= 1
}

func allNought(x []int) bool { return !slices.ContainsFunc(x, func(n int) bool { return n != 0 }) }

// eachList tells all lists of n numbers from least to most, less ones first. The list is the same one each time.
func eachList(n int, least int, most int, tell func(x []int)) {
	x := make([]int, n)
	var fill func(i int)
	fill = func(i int) {
		if i == n {
			tell(x)
			return
		}
		for x[i] = least; x[i] <= most; x[i]++ {
			fill(i + 1)
		}
	}
	fill(0)
}

// listsOf are all lists of n numbers of 1 to 4.
func listsOf(n int) [][]int {
	var out [][]int
	eachList(n, 1, 4, func(x []int) { out = append(out, slices.Clone(x)) })
	return out
}

// solutionsUpTo are all that solve, not all 0, with numbers up to most.
func solutionsUpTo(a []int, b []int, most int) [][]int {
	var out [][]int
	eachList(len(a)+len(b), 0, most, func(x []int) {
		if smallSum(a, x) == smallSum(b, x[len(a):]) && !allNought(x) {
			out = append(out, slices.Clone(x))
		}
	})
	return out
}

func smallSum(numbers []int, x []int) int {
	sum := 0
	for i, n := range numbers {
		sum += n * x[i]
	}
	return sum
}

// leastOf is the document's sentence on Basis, word by word, of solutions that are told.
func leastOf(solutions [][]int) [][]int {
	var out [][]int
	for _, x := range solutions {
		if !slices.ContainsFunc(solutions, func(y []int) bool { return isLeast(y, x) }) {
			out = append(out, x)
		}
	}
	return out
}

// climbed finds all least solutions without any bound: from one number 1 on, always one more on the side that is less, and never above what was found.
func climbed(a []int, b []int) [][]int {
	n := len(a) + len(b)
	level := map[string][]int{}
	for i := range n {
		x := make([]int, n)
		x[i] = 1
		level[fmt.Sprint(x)] = x
	}
	var found [][]int
	for len(level) > 0 {
		above := map[string][]int{}
		for _, x := range level {
			if smallSum(a, x) == smallSum(b, x[len(a):]) {
				found = append(found, x)
			}
		}
		for _, x := range level {
			for _, y := range oneMore(a, b, x) {
				if !slices.ContainsFunc(found, func(z []int) bool { return slices.Equal(z, y) || isLeast(z, y) }) {
					above[fmt.Sprint(y)] = y
				}
			}
		}
		level = above
	}
	slices.SortFunc(found, slices.Compare)
	return found
}

func oneMore(a []int, b []int, x []int) [][]int {
	from, to := 0, len(a)
	switch left, right := smallSum(a, x), smallSum(b, x[len(a):]); {
	case left == right:
		return nil
	case left > right:
		from, to = len(a), len(x)
	}
	var out [][]int
	for i := from; i < to; i++ {
		y := slices.Clone(x)
		y[i]++
		out = append(out, y)
	}
	return out
}

func sameLists(a [][]int, b [][]int) bool {
	return slices.EqualFunc(a, b, func(x []int, y []int) bool { return slices.Equal(x, y) })
}

var spareList = []int{spareMark}

// roomyLists is list made anew, with marked room behind it and behind each of its lists.
func roomyLists(list [][]int) [][]int {
	out := make([][]int, len(list))
	for i, x := range list {
		out[i] = withSpare(x)
	}
	return withRoom(out, spareList)
}

// checkListsRoom holds what roomyLists made of want against want.
func checkListsRoom(t *testing.T, what string, got [][]int, want [][]int) {
	t.Helper()
	if len(got) != len(want) {
		t.Errorf("%s: the argument became %v, it was %v", what, got, want)
		return
	}
	for i := range want {
		checkUntouched(t, what, got[i], want[i])
	}
	for _, x := range got[len(got):cap(got)] {
		if !slices.Equal(x, []int{spareMark}) {
			t.Errorf("%s: %v was written into the spare room behind %v", what, x, want)
		}
	}
}

func markAll(list []int) {
	all := list[:cap(list)]
	for i := range all {
		all[i] = 77777
	}
}

func checkSolves(t *testing.T, a []int, b []int, x []int, want bool) {
	t.Helper()
	p, q, r := withSpare(a), withSpare(b), withSpare(x)
	for range 2 {
		if got := impl.Solves(p, q, r); got != want {
			t.Errorf("Solves(%v, %v, %v) is %v", a, b, x, got)
		}
	}
	checkUntouched(t, "Solves", p, a)
	checkUntouched(t, "Solves", q, b)
	checkUntouched(t, "Solves", r, x)
}

func checkLeast(t *testing.T, x []int, y []int, want bool) {
	t.Helper()
	p, q := withSpare(x), withSpare(y)
	for range 2 {
		if got := impl.Least(p, q); got != want {
			t.Errorf("Least(%v, %v) is %v", x, y, got)
		}
	}
	checkUntouched(t, "Least", p, x)
	checkUntouched(t, "Least", q, y)
}

// checkBasis also writes over the lists of the answer, one by one, with the room behind them: the others stay as they are.
func checkBasis(t *testing.T, a []int, b []int, want [][]int, wantOk bool) {
	t.Helper()
	p, q := withSpare(a), withSpare(b)
	for range 2 {
		got, ok := impl.Basis(p, q)
		if !sameLists(got, want) || ok != wantOk {
			t.Errorf("Basis(%v, %v) is %v %v, not %v %v", a, b, got, ok, want, wantOk)
			return
		}
		for i := range got {
			markAll(got[i])
			if !sameLists(got[i+1:], want[i+1:]) {
				t.Errorf("Basis(%v, %v): its lists share memory", a, b)
			}
		}
		room := got[:cap(got)]
		for i := range room {
			room[i] = []int{77777}
		}
		checkUntouched(t, "Basis, its answer written over", p, a)
		checkUntouched(t, "Basis, its answer written over", q, b)
	}
}

func checkSum(t *testing.T, list [][]int, n int, want []int) {
	t.Helper()
	arg := roomyLists(list)
	for range 2 {
		got := impl.Sum(arg, n)
		if !slices.Equal(got, want) {
			t.Errorf("Sum(%v, %d) is %v, not %v", list, n, got, want)
		}
		checkListsRoom(t, "Sum", arg, list)
		markAll(got)
		checkListsRoom(t, "Sum, its answer written over", arg, list)
	}
}
