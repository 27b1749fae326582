package tests

import (
	"math"
	"slices"
	"strconv"
	"testing"

	"loop.example/returningdigits/impl"
)

// badBases are none: just outside of both bounds, and far from them.
var badBases = []int{math.MinInt, -10, -2, -1, 0, 1, 17, 18, 36, 100, math.MaxInt}

// badWholes are no numbers: just outside of both bounds, and far from them.
var badWholes = []int{math.MinInt, -1000000000, -10, -1, 1000000001, 1000000002, 4294967296, math.MaxInt}

// eachBase calls for each base there is.
func eachBase(f func(base int)) {
	for base := 2; base <= 16; base++ {
		f(base)
	}
}

// someWholes are small numbers, those around the powers of a base, where the number of digits changes, some between, and the greatest ones.
func someWholes(base int) []int {
	var list []int
	for n := range 600 {
		list = append(list, n)
	}
	for power := base; power <= 1000000000; power *= base {
		for n := power - 3; n <= power+3; n++ {
			list = append(list, n)
		}
	}
	for n := 1; n <= 999000000; n = n*7/3 + 5 {
		list = append(list, n)
	}
	for n := 999999990; n <= 1000000000; n++ {
		list = append(list, n)
	}
	list = slices.DeleteFunc(list, func(n int) bool { return n < 0 || n > 1000000000 })
	slices.Sort(list)
	return slices.Compact(list)
}

// knownDigits are the digits of a number as the standard library writes them, however great it is.
func knownDigits(n int, base int) []int {
	var list []int
	for _, c := range strconv.FormatInt(int64(n), base) {
		digit, _ := strconv.ParseInt(string(c), base, 64)
		list = append(list, int(digit))
	}
	return list
}

// mustBeAlone fails unless two calls give the same row, and none shows what is written to the other, or behind it.
func mustBeAlone(t *testing.T, call func() []int) {
	t.Helper()
	first := call()
	want := slices.Clone(first)
	second := call()
	behind := first[:cap(first)]
	for i := range behind {
		behind[i] = -77
	}
	if !slices.Equal(second, want) || !slices.Equal(call(), want) {
		t.Fatalf("what was written to one result is seen in another: %v %v", second, want)
	}
}

// mustWhole fails unless a row of digits is the number.
func mustWhole(t *testing.T, digits []int, base int, want int) {
	t.Helper()
	if n, ok := impl.WholeOf(digits, base); n != want || !ok {
		t.Fatalf("WholeOf(%v, %d) = %d %v, not %d", digits, base, n, ok, want)
	}
}

// mustNotWhole fails unless a row of digits is refused.
func mustNotWhole(t *testing.T, digits []int, base int) {
	t.Helper()
	if n, ok := impl.WholeOf(digits, base); n != -1 || ok {
		t.Fatalf("WholeOf(%v, %d) = %d %v, not -1 false", digits, base, n, ok)
	}
}

// mustBehind fails unless one number behind another one is the number.
func mustBehind(t *testing.T, n int, m int, base int, want int) {
	t.Helper()
	if got, ok := impl.BehindOf(n, m, base); got != want || !ok {
		t.Fatalf("BehindOf(%d, %d, %d) = %d %v, not %d", n, m, base, got, ok, want)
	}
}

// mustNotBehind fails unless one number behind another one is refused.
func mustNotBehind(t *testing.T, n int, m int, base int) {
	t.Helper()
	if got, ok := impl.BehindOf(n, m, base); got != -1 || ok {
		t.Fatalf("BehindOf(%d, %d, %d) = %d %v, not -1 false", n, m, base, got, ok)
	}
}

// eachNoNumber calls for numbers and bases of which at least one is none.
func eachNoNumber(f func(n int, base int)) {
	eachBase(func(base int) {
		for _, n := range badWholes {
			f(n, base)
		}
	})
	for _, base := range badBases {
		for _, n := range []int{-1, 0, 1, 5, 12, 1000000000, 1000000001} {
			f(n, base)
		}
	}
}

// mustRefuse fails unless a function of a number and a base answers -1 to all that are none.
func mustRefuse(t *testing.T, name string, f func(n int, base int) int) {
	t.Helper()
	eachNoNumber(func(n int, base int) {
		if got := f(n, base); got != -1 {
			t.Fatalf("%s(%d, %d) = %d, not -1", name, n, base, got)
		}
	})
}
