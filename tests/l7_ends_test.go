package tests

import (
	"math"
	"slices"
	"strconv"
	"strings"
	"testing"

	"loop.example/returningdigits/impl"
)

// badLongs are no numbers of digits of ends: just outside of both bounds, and far from them.
var badLongs = []int{math.MinInt, -4, -1, 0, 5, 6, 8, 100, 1000000000, math.MaxInt}

// onePrime are the bases that one prime divides; two primes divide each other base.
var onePrime = []int{2, 3, 4, 5, 7, 8, 9, 11, 13, 16}

// eachLong calls for each base and each number of digits of ends there is.
func eachLong(f func(long int, base int)) {
	eachBase(func(base int) {
		for long := 1; long <= 4; long++ {
			f(long, base)
		}
	})
}

// knownEnd reports whether the text of the square ends with the text of the number, noughts ahead of both written.
func knownEnd(n int, long int, base int) bool {
	ahead := strings.Repeat("0", long)
	text := ahead + strconv.FormatInt(int64(n), base)
	square := ahead + strconv.FormatInt(int64(n)*int64(n), base)
	return strings.HasSuffix(square, text[len(text)-long:])
}

// knownEnds are all ends of so many digits, sought among all numbers of so many digits.
func knownEnds(long int, base int) []int {
	var list []int
	for n := range beyond(long, base) {
		if knownEnd(n, long, base) {
			list = append(list, n)
		}
	}
	return list
}

// eachBadSize calls for numbers, numbers of digits and bases where the number of digits or the base is none.
func eachBadSize(f func(n int, long int, base int)) {
	for _, n := range []int{math.MinInt, -1, 0, 1, 5, 6, 25, 76, 376, 625, 9376, 90625, 109376, 1000000001, math.MaxInt} {
		for _, long := range badLongs {
			for base := 0; base <= 18; base++ {
				f(n, long, base)
			}
		}
		for _, base := range badBases {
			for long := 0; long <= 5; long++ {
				f(n, long, base)
			}
		}
	}
}

// eachTooLong calls for numbers that are below 0, or have more digits than said; many of the latter end with 0, 1 or another end.
func eachTooLong(f func(n int, long int, base int)) {
	eachLong(func(long int, base int) {
		top := beyond(long, base)
		for _, n := range []int{top, top + 1, top + 5, top + 6, top + 25, 2 * top, 2*top + 1, top * base, top*base + 1, top * top, top*top + 1, 1000000000, 1000000001, 1 << 32, 1 << 33, 1<<32 + 1, 1 << 62, 1<<62 + 1, math.MaxInt} {
			f(n, long, base)
		}
		for _, n := range []int{-1, -2, -4, -5, -24, -top + 1, -top, -top - 1, -1000000000, -1 << 32, 1 - 1<<32, math.MinInt, math.MinInt + 1} {
			f(n, long, base)
		}
	})
}

// eachNoEnd calls for all numbers of so many digits that are no ends, and for all numbers, numbers of digits and bases that are none.
func eachNoEnd(f func(n int, long int, base int)) {
	eachLong(func(long int, base int) {
		for n := range beyond(long, base) {
			if !knownEnd(n, long, base) {
				f(n, long, base)
			}
		}
	})
	eachTooLong(f)
	eachBadSize(f)
}

// eachEnd calls for all ends there are.
func eachEnd(f func(n int, long int, base int)) {
	eachLong(func(long int, base int) {
		for _, n := range knownEnds(long, base) {
			f(n, long, base)
		}
	})
}

// mustNotLonger fails unless a longer end of a number is refused.
func mustNotLonger(t *testing.T, n int, long int, base int) {
	t.Helper()
	if got, ok := impl.LongerEnd(n, long, base); got != -1 || ok {
		t.Fatalf("LongerEnd(%d, %d, %d) = %d %v, not -1 false", n, long, base, got, ok)
	}
}

func TestEndsBound(t *testing.T) {
	if impl.MaxEnds != 4 {
		t.Fatal(impl.MaxEnds)
	}
}

// Promise 32.

func TestP32KnownEnds(t *testing.T) {
	cases := []struct {
		n, long, base int
		want          bool
	}{
		{0, 1, 10, true}, {1, 1, 10, true}, {2, 1, 10, false}, {5, 1, 10, true}, {6, 1, 10, true}, {9, 1, 10, false}, {10, 1, 10, false}, {11, 1, 10, false}, {25, 1, 10, false},
		{25, 2, 10, true}, {76, 2, 10, true}, {26, 2, 10, false}, {5, 2, 10, false}, {6, 2, 10, false}, {99, 2, 10, false}, {10, 2, 10, false}, {100, 2, 10, false}, {125, 2, 10, false},
		{376, 3, 10, true}, {625, 3, 10, true}, {25, 3, 10, false}, {999, 3, 10, false}, {1000, 3, 10, false}, {1001, 3, 10, false},
		// An end with a nought ahead: 625 is one of three digits, and of four as 0625.
		{625, 4, 10, true}, {9376, 4, 10, true}, {376, 4, 10, false}, {9999, 4, 10, false}, {10000, 4, 10, false}, {90625, 4, 10, false}, {10625, 4, 10, false},
		{0, 1, 2, true}, {1, 1, 2, true}, {2, 1, 2, false}, {3, 1, 2, false}, {2, 2, 2, false}, {3, 2, 2, false}, {15, 4, 2, false}, {0, 4, 2, true}, {1, 4, 2, true}, {8, 4, 2, false}, {9, 4, 2, false},
		{3, 1, 6, true}, {4, 1, 6, true}, {4, 1, 12, true}, {9, 1, 12, true}, {7, 1, 14, true}, {8, 1, 14, true}, {6, 1, 15, true}, {10, 1, 15, true}, {4, 1, 10, false},
		{0, 4, 16, true}, {1, 4, 16, true}, {15, 1, 16, false}, {6, 1, 16, false}, {0xffff, 4, 16, false}, {0x8001, 4, 16, false}, {0x100, 4, 16, false}, {0x10000, 4, 16, false}, {0x10001, 4, 16, false},
	}
	for _, c := range cases {
		if got := impl.EndOk(c.n, c.long, c.base); got != c.want {
			t.Fatalf("EndOk(%d, %d, %d) = %v", c.n, c.long, c.base, got)
		}
	}
}

func TestP32EndsAreTheEndsOfAllPowers(t *testing.T) {
	eachLong(func(long int, base int) {
		power, lesser := beyond(long, base), beyond(long-1, base)
		for n := range power {
			got := impl.EndOk(n, long, base)
			if got != knownEnd(n, long, base) {
				t.Fatal(n, long, base, got)
			}
			if !got {
				continue
			}
			if n*n%power*n%power != n {
				t.Fatal("the power of three", n, long, base)
			}
			if long > 1 && !impl.EndOk(n%lesser, long-1, base) {
				t.Fatal("the rest by a power less", n, long, base)
			}
		}
	})
}

func TestP32NoughtAndOneAreEnds(t *testing.T) {
	eachLong(func(long int, base int) {
		if !impl.EndOk(0, long, base) || !impl.EndOk(1, long, base) {
			t.Fatal(long, base)
		}
		// The square of the greatest number ends with 1.
		if greatest := beyond(long, base) - 1; impl.EndOk(greatest, long, base) != (greatest == 1) {
			t.Fatal("the greatest number", long, base)
		}
	})
}

func TestP32OthersAreNoEnds(t *testing.T) {
	eachNoEnd(func(n int, long int, base int) {
		if impl.EndOk(n, long, base) {
			t.Fatal(n, long, base)
		}
	})
}

// Promise 33.

func TestP33KnownLists(t *testing.T) {
	cases := []struct {
		long, base int
		want       []int
	}{
		{1, 10, []int{0, 1, 5, 6}}, {2, 10, []int{0, 1, 25, 76}}, {3, 10, []int{0, 1, 376, 625}}, {4, 10, []int{0, 1, 625, 9376}},
		{1, 6, []int{0, 1, 3, 4}}, {2, 6, []int{0, 1, 9, 28}}, {1, 12, []int{0, 1, 4, 9}}, {2, 12, []int{0, 1, 64, 81}}, {1, 14, []int{0, 1, 7, 8}}, {1, 15, []int{0, 1, 6, 10}},
		{1, 2, []int{0, 1}}, {2, 2, []int{0, 1}}, {4, 2, []int{0, 1}}, {1, 7, []int{0, 1}}, {3, 9, []int{0, 1}}, {1, 16, []int{0, 1}}, {4, 16, []int{0, 1}},
	}
	for _, c := range cases {
		if got := impl.EndsOf(c.long, c.base); !slices.Equal(got, c.want) {
			t.Fatalf("EndsOf(%d, %d) = %v, not %v", c.long, c.base, got, c.want)
		}
	}
}

func TestP33AsManyAsPowersOfTwoOfThePrimes(t *testing.T) {
	eachLong(func(long int, base int) {
		list, power := impl.EndsOf(long, base), beyond(long, base)
		if !slices.Equal(list, knownEnds(long, base)) {
			t.Fatal(long, base, list)
		}
		if len(list) != 1<<impl.PrimesOf(base) {
			t.Fatal("how many", long, base, list)
		}
		for _, n := range list {
			if !impl.EndOk(n, long, base) {
				t.Fatal("no end", n, long, base)
			}
			for _, m := range list {
				if !slices.Contains(list, n*m%power) {
					t.Fatal("the product", n, m, long, base)
				}
			}
		}
	})
}

func TestP33NoEndsOfOthers(t *testing.T) {
	eachBadSize(func(_ int, long int, base int) {
		if got := impl.EndsOf(long, base); len(got) != 0 {
			t.Fatalf("EndsOf(%d, %d) = %v, not nil", long, base, got)
		}
	})
}

func TestP33ListsAreNewMemory(t *testing.T) {
	eachLong(func(long int, base int) {
		mustBeAlone(t, func() []int { return impl.EndsOf(long, base) })
	})
}

// Promise 34.

func TestP34KnownOthers(t *testing.T) {
	cases := []struct{ n, long, base, want int }{
		{0, 1, 10, 1}, {1, 1, 10, 0}, {5, 1, 10, 6}, {6, 1, 10, 5}, {25, 2, 10, 76}, {76, 2, 10, 25}, {376, 3, 10, 625}, {625, 3, 10, 376}, {625, 4, 10, 9376}, {9376, 4, 10, 625},
		{0, 4, 10, 1}, {1, 4, 10, 0}, {0, 1, 2, 1}, {1, 1, 2, 0}, {0, 4, 2, 1}, {1, 4, 2, 0}, {0, 1, 16, 1}, {1, 4, 16, 0}, {0, 4, 16, 1},
		{3, 1, 6, 4}, {4, 1, 12, 9}, {81, 2, 12, 64}, {8, 1, 14, 7}, {6, 1, 15, 10},
		{2, 1, 10, -1}, {26, 2, 10, -1}, {75, 2, 10, -1}, {5, 2, 10, -1}, {99, 2, 10, -1}, {100, 2, 10, -1}, {101, 2, 10, -1}, {125, 2, 10, -1}, {2, 1, 2, -1},
	}
	for _, c := range cases {
		if got := impl.OtherEnd(c.n, c.long, c.base); got != c.want {
			t.Fatalf("OtherEnd(%d, %d, %d) = %d, not %d", c.n, c.long, c.base, got, c.want)
		}
	}
}

func TestP34EndsComeInTwos(t *testing.T) {
	eachEnd(func(n int, long int, base int) {
		other, power := impl.OtherEnd(n, long, base), beyond(long, base)
		if !impl.EndOk(other, long, base) || impl.OtherEnd(other, long, base) != n {
			t.Fatal("no end, or not back", n, long, base, other)
		}
		if n*other%power != 0 {
			t.Fatal("the product", n, long, base, other)
		}
		if n < 2 && other != 1-n || n >= 2 && n+other != power+1 {
			t.Fatal("the sum", n, long, base, other)
		}
	})
}

func TestP34NoOtherEndOfOthers(t *testing.T) {
	eachNoEnd(func(n int, long int, base int) {
		if got := impl.OtherEnd(n, long, base); got != -1 {
			t.Fatalf("OtherEnd(%d, %d, %d) = %d, not -1", n, long, base, got)
		}
	})
}

// Promise 35.

func TestP35KnownLonger(t *testing.T) {
	cases := []struct{ n, long, base, want int }{
		{0, 1, 10, 0}, {1, 1, 10, 1}, {5, 1, 10, 25}, {6, 1, 10, 76}, {25, 2, 10, 625}, {76, 2, 10, 376}, {376, 3, 10, 9376}, {0, 3, 10, 0}, {1, 3, 10, 1},
		// With a nought ahead it is the same number.
		{625, 3, 10, 625}, {9, 1, 12, 81}, {4, 1, 12, 64}, {3, 1, 6, 9}, {4, 1, 6, 28},
		{0, 1, 2, 0}, {1, 1, 2, 1}, {1, 3, 2, 1}, {0, 3, 16, 0}, {1, 3, 16, 1}, {1, 1, 16, 1},
	}
	for _, c := range cases {
		if got, ok := impl.LongerEnd(c.n, c.long, c.base); got != c.want || !ok {
			t.Fatalf("LongerEnd(%d, %d, %d) = %d %v, not %d", c.n, c.long, c.base, got, ok, c.want)
		}
	}
}

func TestP35EachEndIsTheEndOfALongerOne(t *testing.T) {
	eachEnd(func(n int, long int, base int) {
		if long == impl.MaxEnds {
			return
		}
		longer, ok := impl.LongerEnd(n, long, base)
		if !ok || !impl.EndOk(longer, long+1, base) || longer%beyond(long, base) != n {
			t.Fatal(n, long, base, longer, ok)
		}
		for _, end := range impl.EndsOf(long+1, base) {
			if end%beyond(long, base) == n && end != longer {
				t.Fatal("another one", n, long, base, longer, end)
			}
		}
	})
}

func TestP35NoEndIsLongerThanTheLongest(t *testing.T) {
	eachBase(func(base int) {
		for _, n := range knownEnds(impl.MaxEnds, base) {
			mustNotLonger(t, n, impl.MaxEnds, base)
		}
	})
}

func TestP35NoLongerEndOfOthers(t *testing.T) {
	eachNoEnd(func(n int, long int, base int) { mustNotLonger(t, n, long, base) })
}

// Promise 36.

func TestP36KnownPrimes(t *testing.T) {
	eachBase(func(base int) {
		want := 2
		if slices.Contains(onePrime, base) {
			want = 1
		}
		if got := impl.PrimesOf(base); got != want {
			t.Fatalf("PrimesOf(%d) = %d, not %d", base, got, want)
		}
	})
}

func TestP36BasesOfOnePrimeHaveTwoEnds(t *testing.T) {
	eachBase(func(base int) {
		primes, ends := impl.PrimesOf(base), impl.EndsOf(1, base)
		if primes < 1 || primes > 2 || (len(ends) == 2) != (primes == 1) {
			t.Fatal(base, primes, ends)
		}
	})
}

func TestP36NoPrimesOfOthers(t *testing.T) {
	for _, base := range badBases {
		if got := impl.PrimesOf(base); got != -1 {
			t.Fatalf("PrimesOf(%d) = %d, not -1", base, got)
		}
	}
}
