package tests

import (
	"slices"
	"testing"
)

const spareMark = -424242

// withSpare has the numbers of list and marked room behind them, so that a write there is seen.
func withSpare(list []int) []int {
	room := make([]int, len(list)+4)
	copy(room, list)
	for i := len(list); i < len(room); i++ {
		room[i] = spareMark
	}
	return room[:len(list)]
}

func checkUntouched(t *testing.T, what string, got []int, want []int) {
	t.Helper()
	if !slices.Equal(got, want) {
		t.Errorf("%s: the argument became %v, it was %v", what, got, want)
	}
	for _, x := range got[len(got):cap(got)] {
		if x != spareMark {
			t.Errorf("%s: %d was written into the spare room behind %v", what, x, want)
		}
	}
}
