package impl

import (
	"cmp"
	"strconv"
	"strings"
)

const maxNumber = 999999

// listOf is a list whose elements have a size, so that a new one has its place.
type listOf[T cmp.Ordered] []T

func (l listOf[T]) has(x T) bool {
	for _, y := range l {
		if y == x {
			return true
		}
	}
	return false
}

// with is made anew even where x is there already: an answer shares no memory with an argument.
func (l listOf[T]) with(x T) listOf[T] {
	out := make(listOf[T], 0, len(l)+1)
	placed := l.has(x)
	for _, y := range l {
		if !placed && y > x {
			out = append(out, x)
			placed = true
		}
		out = append(out, y)
	}
	if !placed {
		out = append(out, x)
	}
	return out
}

func (l listOf[T]) text(tell func(T) string, between string) string {
	var b strings.Builder
	for i, x := range l {
		if i > 0 {
			b.WriteString(between)
		}
		b.WriteString(tell(x))
	}
	return b.String()
}

func Digits(n int) string { return strconv.Itoa(n) }

// Number holds s against Digits of what it reads, as a sign or noughts ahead would be read, too.
func Number(s string) (int, bool) {
	n, err := strconv.Atoi(s)
	if err != nil || n < 0 || n > maxNumber || Digits(n) != s {
		return 0, false
	}
	return n, true
}

func NumIn(list []int, n int) bool { return listOf[int](list).has(n) }

func NumAdd(list []int, n int) []int { return listOf[int](list).with(n) }

func NumsText(list []int) string { return listOf[int](list).text(Digits, ",") }
