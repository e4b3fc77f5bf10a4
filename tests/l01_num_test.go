package tests

import (
	"fmt"
	"math"
	"regexp"
	"slices"
	"strings"
	"testing"

	"loop.example/g00461/impl"
)

func TestDigits(t *testing.T) {
	cases := []struct {
		n    int
		want string
	}{
		{0, "0"},
		{7, "7"},
		{10, "10"},
		{120, "120"},
		{100200, "100200"},
		{999999, "999999"},
		{1000000, "1000000"},
		{-1, "-1"},
		{-70, "-70"},
		{-1000000, "-1000000"},
		{math.MaxInt, "9223372036854775807"},
		{math.MinInt, "-9223372036854775808"},
		{math.MinInt + 1, "-9223372036854775807"},
	}
	for _, c := range cases {
		if got := impl.Digits(c.n); got != c.want {
			t.Errorf("Digits(%d) is %q, not %q", c.n, got, c.want)
		}
	}
	for n := -1100; n <= 1100; n++ {
		if got := impl.Digits(n); got != fmt.Sprint(n) {
			t.Errorf("Digits(%d) is %q", n, got)
		}
	}
}

func checkNumber(t *testing.T, s string, want int, wantOk bool) {
	t.Helper()
	if n, ok := impl.Number(s); n != want || ok != wantOk {
		t.Errorf("Number(%q) is %d %v, not %d %v", s, n, ok, want, wantOk)
	}
}

func TestNumberOfDigits(t *testing.T) {
	for n := 0; n <= 999999; n++ {
		if got, ok := impl.Number(impl.Digits(n)); got != n || !ok {
			t.Fatalf("Number(Digits(%d)) is %d %v", n, got, ok)
		}
	}
	for _, n := range []int{1000000, 1000001, 9999999, math.MaxInt, -1, -9, -999999, math.MinInt, math.MinInt + 1} {
		checkNumber(t, impl.Digits(n), 0, false)
	}
}

func TestNumberRefuses(t *testing.T) {
	wrong := []string{
		"",
		"00", "01", "012", "000000", "0999999", "099999",
		"-", "+", "-0", "+0", "-1", "+1", "+12", "--1",
		" ", " 1", "1 ", "1 2", "\n1", "1\n", "\t1",
		"1000000", "9999999", "9223372036854775807", "9223372036854775808",
		"18446744073709551616", "18446744073709551617", strings.Repeat("9", 400), strings.Repeat("0", 400) + "1",
		"a", "1a", "a1", "0x1", "0b1", "0o7", "1_000", "1e3", "1.0", "1.", ".1", "1,2", "NaN", "Inf",
		"/", ":", "1/", "1:", "\x00", "1\x00", "\x001", "\xff", "1\xff",
		"\u0661", "\uff11", "1\u0660", "\u22121",
	}
	for _, s := range wrong {
		checkNumber(t, s, 0, false)
	}
}

// checkOneNumber holds Number against the form that Digits of 0 to 999999 have: one text a number.
func checkOneNumber(t *testing.T, s string) {
	t.Helper()
	n, ok := impl.Number(s)
	if ok != digitsForm.MatchString(s) {
		t.Errorf("Number(%q) is %d %v", s, n, ok)
	}
	if ok && (n < 0 || n > 999999 || impl.Digits(n) != s) {
		t.Errorf("Number(%q) is %d, whose Digits are %q", s, n, impl.Digits(n))
	}
	if !ok && n != 0 {
		t.Errorf("Number(%q) is %d beside a false", s, n)
	}
}

var digitsForm = regexp.MustCompile(`\A(0|[1-9][0-9]{0,5})\z`)

func checkAllTexts(t *testing.T, ahead string, signs string, more int) {
	checkOneNumber(t, ahead)
	if more == 0 {
		return
	}
	for i := 0; i < len(signs); i++ {
		checkAllTexts(t, ahead+signs[i:i+1], signs, more-1)
	}
}

func TestNumberOfShortTexts(t *testing.T) {
	all := make([]byte, 256)
	for i := range all {
		all[i] = byte(i)
	}
	checkAllTexts(t, "", string(all), 2)
	checkAllTexts(t, "", "-+ 019", 4)
	checkAllTexts(t, "", "09", 8)
}

func TestNumIn(t *testing.T) {
	cases := []struct {
		list []int
		n    int
		want bool
	}{
		{nil, 0, false},
		{[]int{}, 0, false},
		{[]int{0}, 0, true},
		{[]int{1}, 0, false},
		{[]int{3, 5}, 3, true},
		{[]int{3, 5}, 5, true},
		{[]int{3, 5}, 4, false},
		{[]int{3, 5}, -3, false},
		{[]int{3, 5, 9}, 5, true},
		{[]int{9, 2, 9, -4}, -4, true},
		{[]int{9, 2, 9, -4}, 2, true},
		{[]int{9, 2, 9, -4}, 4, false},
		{[]int{math.MinInt, math.MaxInt}, math.MinInt, true},
		{[]int{math.MinInt, math.MaxInt}, math.MaxInt, true},
		{[]int{math.MinInt, math.MaxInt}, 0, false},
	}
	for _, c := range cases {
		list := withSpare(c.list)
		if got := impl.NumIn(list, c.n); got != c.want {
			t.Errorf("NumIn(%v, %d) is %v", c.list, c.n, got)
		}
		checkUntouched(t, "NumIn", list, c.list)
	}
	if impl.NumIn(withSpare(nil), spareMark) {
		t.Error("NumIn finds what stands in the spare room")
	}
}

// checkAdd also writes over the answer, as one that shares memory with its argument would change it.
func checkAdd(t *testing.T, list []int, n int, want []int) {
	t.Helper()
	arg := withSpare(list)
	got := impl.NumAdd(arg, n)
	if !slices.Equal(got, want) {
		t.Errorf("NumAdd(%v, %d) is %v, not %v", list, n, got, want)
	}
	checkUntouched(t, "NumAdd", arg, list)
	all := got[:cap(got)]
	for i := range all {
		all[i] = 77777
	}
	checkUntouched(t, "NumAdd's answer, written over", arg, list)
}

func TestNumAdd(t *testing.T) {
	cases := []struct {
		list []int
		n    int
		want []int
	}{
		{nil, 0, []int{0}},
		{[]int{}, -5, []int{-5}},
		{[]int{1}, 1, []int{1}},
		{[]int{1}, 0, []int{0, 1}},
		{[]int{1}, 2, []int{1, 2}},
		{[]int{1, 5}, 3, []int{1, 3, 5}},
		{[]int{1, 5}, 0, []int{0, 1, 5}},
		{[]int{1, 5}, 9, []int{1, 5, 9}},
		{[]int{1, 5}, 1, []int{1, 5}},
		{[]int{1, 5}, 5, []int{1, 5}},
		{[]int{1, 3, 5}, 3, []int{1, 3, 5}},
		{[]int{2, 10}, 9, []int{2, 9, 10}},
		{[]int{-9, -2}, -3, []int{-9, -3, -2}},
		{[]int{-1, 1}, 0, []int{-1, 0, 1}},
		{[]int{math.MinInt, math.MaxInt}, 0, []int{math.MinInt, 0, math.MaxInt}},
		{[]int{math.MinInt, math.MaxInt}, math.MinInt, []int{math.MinInt, math.MaxInt}},
		{[]int{math.MinInt, math.MaxInt}, math.MaxInt, []int{math.MinInt, math.MaxInt}},
		{[]int{0}, math.MinInt, []int{math.MinInt, 0}},
		{[]int{0}, math.MaxInt, []int{0, math.MaxInt}},
	}
	for _, c := range cases {
		checkAdd(t, c.list, c.n, c.want)
	}
}

func TestNumAddToEachSet(t *testing.T) {
	for set := 0; set < 1<<7; set++ {
		var list []int
		for i := range 7 {
			if set>>i&1 == 1 {
				list = append(list, 2*i-6)
			}
		}
		for n := -8; n <= 8; n++ {
			want := slices.Concat(list, []int{n})
			slices.Sort(want)
			checkAdd(t, list, n, slices.Compact(want))
		}
	}
}

func TestNumAddToListOutOfOrder(t *testing.T) {
	checkAdd(t, []int{5, 3}, 3, []int{5, 3})
	checkAdd(t, []int{9, 2, 9}, 2, []int{9, 2, 9})
	for _, list := range [][]int{{5, 3}, {9, 2, 9}, {4, 4}} {
		got := impl.NumAdd(list, 6)
		rest := slices.DeleteFunc(slices.Clone(got), func(x int) bool { return x == 6 })
		if len(got) != len(list)+1 || !slices.Equal(rest, list) {
			t.Errorf("NumAdd(%v, 6) is %v", list, got)
		}
	}
}

func TestNumsText(t *testing.T) {
	cases := []struct {
		list []int
		want string
	}{
		{nil, ""},
		{[]int{}, ""},
		{[]int{0}, "0"},
		{[]int{12}, "12"},
		{[]int{1, 3, 5}, "1,3,5"},
		{[]int{5, 1, 5}, "5,1,5"},
		{[]int{-70, 0, 1000000}, "-70,0,1000000"},
		{[]int{math.MinInt, math.MaxInt}, "-9223372036854775808,9223372036854775807"},
	}
	for _, c := range cases {
		list := withSpare(c.list)
		if got := impl.NumsText(list); got != c.want {
			t.Errorf("NumsText(%v) is %q, not %q", c.list, got, c.want)
		}
		checkUntouched(t, "NumsText", list, c.list)
	}
}

func TestNumsTextIsReadAgain(t *testing.T) {
	list := []int{0, 1, 10, 120, 999999}
	words := strings.Split(impl.NumsText(list), string([]byte{44}))
	if len(words) != len(list) {
		t.Fatalf("NumsText(%v) has %d words", list, len(words))
	}
	for i, s := range words {
		checkNumber(t, s, list[i], true)
	}
}
