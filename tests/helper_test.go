package tests

import (
	"reflect"
	"testing"
)

const spareMark = -424242

// withRoom has the elements of list and marked room behind them, so that a write there is seen.
func withRoom[T any](list []T, mark T) []T {
	room := make([]T, len(list)+4)
	copy(room, list)
	for i := len(list); i < len(room); i++ {
		room[i] = mark
	}
	return room[:len(list)]
}

func checkRoom[T any](t *testing.T, what string, got []T, want []T, mark T) {
	t.Helper()
	if len(got) != len(want) || len(got) > 0 && !reflect.DeepEqual(got, want) {
		t.Errorf("%s: the argument became %v, it was %v", what, got, want)
	}
	for _, x := range got[len(got):cap(got)] {
		if !reflect.DeepEqual(x, mark) {
			t.Errorf("%s: %v was written into the spare room behind %v", what, x, want)
		}
	}
}

func withSpare(list []int) []int { return withRoom(list, spareMark) }

func checkUntouched(t *testing.T, what string, got []int, want []int) {
	t.Helper()
	checkRoom(t, what, got, want, spareMark)
}
