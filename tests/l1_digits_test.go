package tests

import (
	"slices"
	"testing"

	"loop.example/returningdigits/impl"
)

func TestBounds(t *testing.T) {
	if impl.MaxBase != 16 || impl.MaxWhole != 1000000000 {
		t.Fatal(impl.MaxBase, impl.MaxWhole)
	}
}

// Promise 1.

func TestP1TwoIsABase(t *testing.T) {
	for base := -300; base <= 300; base++ {
		if impl.BaseOk(base) != (base >= 2 && base <= 16) {
			t.Fatal(base, impl.BaseOk(base))
		}
	}
	for _, base := range badBases {
		if impl.BaseOk(base) {
			t.Fatal(base)
		}
	}
}

// Promise 2.

func TestP2KnownDigits(t *testing.T) {
	cases := []struct {
		n, base int
		want    []int
	}{
		{0, 2, []int{0}},
		{0, 10, []int{0}},
		{0, 16, []int{0}},
		{1, 2, []int{1}},
		{2, 2, []int{1, 0}},
		{6, 2, []int{1, 1, 0}},
		{9, 10, []int{9}},
		{10, 10, []int{1, 0}},
		{1205, 10, []int{1, 2, 0, 5}},
		{15, 16, []int{15}},
		{16, 16, []int{1, 0}},
		{255, 16, []int{15, 15}},
		{1000000000, 10, []int{1, 0, 0, 0, 0, 0, 0, 0, 0, 0}},
		{1000000000, 16, []int{3, 11, 9, 10, 12, 10, 0, 0}},
	}
	for _, c := range cases {
		if got := impl.DigitsOf(c.n, c.base); !slices.Equal(got, c.want) {
			t.Fatalf("DigitsOf(%d, %d) = %v, not %v", c.n, c.base, got, c.want)
		}
	}
}

func TestP2DigitsTellTheNumber(t *testing.T) {
	eachBase(func(base int) {
		for _, n := range someWholes(base) {
			digits := impl.DigitsOf(n, base)
			if !slices.Equal(digits, knownDigits(n, base)) {
				t.Fatalf("DigitsOf(%d, %d) = %v", n, base, digits)
			}
			if n >= 1 && digits[0] == 0 {
				t.Fatalf("a nought ahead: DigitsOf(%d, %d) = %v", n, base, digits)
			}
			mustWhole(t, digits, base, n)
		}
	})
}

func TestP2DigitsAreInOrder(t *testing.T) {
	eachBase(func(base int) {
		for _, n := range someWholes(base) {
			if n == impl.MaxWhole {
				continue
			}
			one, next := impl.DigitsOf(n, base), impl.DigitsOf(n+1, base)
			longer := len(next) > len(one)
			later := len(next) == len(one) && slices.Compare(one, next) < 0
			if !longer && !later {
				t.Fatal(n, base, one, next)
			}
		}
	})
}

func TestP2NoDigitsOfOthers(t *testing.T) {
	eachBase(func(base int) {
		for _, n := range badWholes {
			if got := impl.DigitsOf(n, base); len(got) != 0 {
				t.Fatal(n, base, got)
			}
		}
	})
	for _, base := range badBases {
		for _, n := range []int{-1, 0, 1, 12, 1000000000, 1000000001} {
			if got := impl.DigitsOf(n, base); len(got) != 0 {
				t.Fatal(n, base, got)
			}
		}
	}
}

func TestP2DigitsAreNewMemory(t *testing.T) {
	eachBase(func(base int) {
		for _, n := range []int{0, 1, base - 1, base, 12345, 1000000000} {
			mustBeAlone(t, func() []int { return impl.DigitsOf(n, base) })
		}
	})
}

// Promise 3.

func TestP3NumbersTellTheirDigits(t *testing.T) {
	eachBase(func(base int) {
		for _, n := range someWholes(base) {
			digits := knownDigits(n, base)
			mustWhole(t, digits, base, n)
			if got := impl.DigitsOf(n, base); !slices.Equal(got, digits) {
				t.Fatal(n, base, got, digits)
			}
			for noughts := 1; noughts <= 3; noughts++ {
				mustWhole(t, append(make([]int, noughts), digits...), base, n)
			}
		}
	})
}

func TestP3NoughtsAhead(t *testing.T) {
	eachBase(func(base int) {
		mustWhole(t, []int{0}, base, 0)
		mustWhole(t, []int{0, 0}, base, 0)
		mustWhole(t, make([]int, 1000), base, 0)
		mustWhole(t, append(make([]int, 1000), base-1), base, base-1)
		greatest := append(make([]int, 1000), knownDigits(impl.MaxWhole, base)...)
		mustWhole(t, greatest, base, impl.MaxWhole)
	})
}

func TestP3NumbersTooGreat(t *testing.T) {
	eachBase(func(base int) {
		mustWhole(t, knownDigits(impl.MaxWhole, base), base, impl.MaxWhole)
		for more := 1; more <= 40; more++ {
			mustNotWhole(t, knownDigits(impl.MaxWhole+more, base), base)
		}
		for long := 31; long <= 200; long++ {
			mustNotWhole(t, slices.Repeat([]int{base - 1}, long), base)
			power := make([]int, long)
			power[0] = 1
			mustNotWhole(t, power, base)
		}
	})
}

func TestP3NoNumberOfOthers(t *testing.T) {
	eachBase(func(base int) {
		mustNotWhole(t, nil, base)
		mustNotWhole(t, []int{}, base)
		for _, digit := range []int{-1000000, -base, -1, base, base + 1, 2 * base, 1000000000} {
			mustNotWhole(t, []int{digit}, base)
			mustNotWhole(t, []int{digit, 1, 1}, base)
			mustNotWhole(t, []int{1, digit, 1}, base)
			mustNotWhole(t, []int{1, 1, digit}, base)
			mustNotWhole(t, []int{0, digit}, base)
		}
	})
	for _, base := range badBases {
		mustNotWhole(t, nil, base)
		mustNotWhole(t, []int{0}, base)
		mustNotWhole(t, []int{1}, base)
		mustNotWhole(t, []int{0, 1, 0}, base)
	}
}

func TestP3DigitsAreNotWrittenTo(t *testing.T) {
	for _, digits := range [][]int{{1, 2, 3, 7, 7}, {0, 0, 5, 7, 7}, {9, 10, -1, 7, 7}, {0, 0, 0, 0, 0}} {
		for long := range digits {
			before := slices.Clone(digits)
			impl.WholeOf(digits[:long], 10)
			if !slices.Equal(digits, before) {
				t.Fatal(digits, before)
			}
		}
	}
}

// Promise 4.

func TestP4KnownLengths(t *testing.T) {
	cases := []struct{ n, base, want int }{
		{0, 2, 1}, {0, 10, 1}, {0, 16, 1}, {1, 2, 1}, {2, 2, 2}, {3, 2, 2}, {4, 2, 3},
		{9, 10, 1}, {10, 10, 2}, {99, 10, 2}, {100, 10, 3}, {15, 16, 1}, {16, 16, 2}, {255, 16, 2},
		{999999999, 10, 9}, {1000000000, 10, 10}, {1000000000, 2, 30}, {1000000000, 16, 8},
	}
	for _, c := range cases {
		if got := impl.LongOf(c.n, c.base); got != c.want {
			t.Fatalf("LongOf(%d, %d) = %d, not %d", c.n, c.base, got, c.want)
		}
	}
}

func TestP4GreaterNumbersHaveNoFewerDigits(t *testing.T) {
	eachBase(func(base int) {
		for _, n := range someWholes(base) {
			long := impl.LongOf(n, base)
			if long != len(impl.DigitsOf(n, base)) || long != len(knownDigits(n, base)) {
				t.Fatal(n, base, long)
			}
			if n < impl.MaxWhole {
				if next := impl.LongOf(n+1, base); next != long && next != long+1 {
					t.Fatal(n, base, long, next)
				}
			}
			if n != 0 && n*base <= impl.MaxWhole {
				if times := impl.LongOf(n*base, base); times != long+1 {
					t.Fatal(n, base, long, times)
				}
			}
		}
	})
}

func TestP4NoLengthOfOthers(t *testing.T) {
	mustRefuse(t, "LongOf", impl.LongOf)
}

// Promise 5.

func TestP5KnownRows(t *testing.T) {
	mustBehind(t, 12, 305, 10, 12305)
	mustBehind(t, 0, 0, 10, 0)
	mustBehind(t, 0, 305, 10, 305)
	mustBehind(t, 12, 0, 10, 120)
	mustBehind(t, 1, 1, 2, 3)
	mustBehind(t, 2, 1, 2, 5)
	mustBehind(t, 15, 255, 16, 4095)
	mustBehind(t, 100000000, 0, 10, 1000000000)
	mustBehind(t, 1, 0, 10, 10)
	mustBehind(t, 99999999, 9, 10, 999999999)
	mustBehind(t, 0, 1000000000, 10, 1000000000)
	mustNotBehind(t, 100000000, 1, 10)
	mustNotBehind(t, 1000000, 1000, 10)
	mustNotBehind(t, 1000000000, 0, 10)
	mustNotBehind(t, 1000000000, 1000000000, 16)
}

func TestP5BehindEachOtherDigitsAreMultiplied(t *testing.T) {
	eachBase(func(base int) {
		wholes := append([]int{0, 1, base - 1, base, base + 1, base*base - 1, base * base}, 305, 1000, 31622, 65535, 1000000, 123456789, impl.MaxWhole)
		for _, n := range wholes {
			for _, m := range wholes {
				want := n
				for range impl.LongOf(m, base) {
					want = min(want*base, impl.MaxWhole+1) // no greater, or it wraps around
				}
				want += m
				if want > impl.MaxWhole {
					mustNotBehind(t, n, m, base)
					continue
				}
				mustBehind(t, n, m, base, want)
				if impl.SumOf(want, base) != impl.SumOf(n, base)+impl.SumOf(m, base) {
					t.Fatal(n, m, base, want)
				}
			}
		}
	})
}

func TestP5GreatestNumberInTwoParts(t *testing.T) {
	eachBase(func(base int) {
		front, last := impl.MaxWhole/base, impl.MaxWhole%base
		mustBehind(t, front, last, base, impl.MaxWhole)
		if last+1 < base {
			mustNotBehind(t, front, last+1, base)
		}
		mustNotBehind(t, front+1, 0, base)
		mustBehind(t, 0, impl.MaxWhole, base, impl.MaxWhole)
		mustNotBehind(t, 1, impl.MaxWhole, base)
	})
}

func TestP5NoneBehindOthers(t *testing.T) {
	eachBase(func(base int) {
		for _, bad := range badWholes {
			for _, good := range []int{0, 1, 12, impl.MaxWhole} {
				mustNotBehind(t, bad, good, base)
				mustNotBehind(t, good, bad, base)
			}
			mustNotBehind(t, bad, bad, base)
		}
	})
	for _, base := range badBases {
		mustNotBehind(t, 0, 0, base)
		mustNotBehind(t, 1, 0, base)
		mustNotBehind(t, 12, 305, base)
		mustNotBehind(t, -1, 5, base)
	}
}

// Promise 6.

func TestP6KnownSums(t *testing.T) {
	cases := []struct{ n, base, want int }{
		{0, 2, 0}, {0, 10, 0}, {0, 16, 0}, {1, 2, 1}, {9, 10, 9}, {10, 10, 1}, {15, 16, 15}, {16, 16, 1},
		{12305, 10, 11}, {255, 16, 30}, {255, 2, 8}, {999999999, 10, 81}, {1000000000, 10, 1},
		{1000000000, 2, 13}, {1000000000, 16, 55},
	}
	for _, c := range cases {
		if got := impl.SumOf(c.n, c.base); got != c.want {
			t.Fatalf("SumOf(%d, %d) = %d, not %d", c.n, c.base, got, c.want)
		}
	}
}

func TestP6SumsOfDigitsAreSmaller(t *testing.T) {
	eachBase(func(base int) {
		for _, n := range someWholes(base) {
			sum, want := impl.SumOf(n, base), 0
			for _, digit := range knownDigits(n, base) {
				want += digit
			}
			if sum != want || sum > n {
				t.Fatal(n, base, sum, want)
			}
			if (sum == n) != (impl.LongOf(n, base) == 1) {
				t.Fatal(n, base, sum, impl.LongOf(n, base))
			}
			if n < impl.MaxWhole && n%base != base-1 && impl.SumOf(n+1, base) != sum+1 {
				t.Fatal(n, base, sum, impl.SumOf(n+1, base))
			}
		}
	})
}

func TestP6NoSumOfOthers(t *testing.T) {
	mustRefuse(t, "SumOf", impl.SumOf)
}
