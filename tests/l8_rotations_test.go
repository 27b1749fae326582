package tests

import (
	"math"
	"math/big"
	"slices"
	"strconv"
	"strings"
	"testing"

	"loop.example/returningdigits/impl"
)

// badUnders are no numbers below the line in any base: just outside of both bounds, and far from them.
var badUnders = []int{math.MinInt, math.MinInt + 1, -1000000000, -200, -7, -3, -2, -1, 0, 201, 202, 203, 211, 221, 223, 256 + 7, 1000000007, 1<<32 + 1, 1<<32 + 7, math.MaxInt - 1, math.MaxInt}

// knownAlone reports whether no number from 2 on divides both numbers.
func knownAlone(n int, m int) bool {
	for divisor := 2; divisor <= n && divisor <= m; divisor++ {
		if n%divisor == 0 && m%divisor == 0 {
			return false
		}
	}
	return true
}

// knownPrime reports whether a number has just two divisors.
func knownPrime(n int) bool {
	divisors := 0
	for divisor := 1; divisor <= n; divisor++ {
		if n%divisor == 0 {
			divisors++
		}
	}
	return divisors == 2
}

// nines is the base taken so many times, less 1, however great it is.
func nines(times int, base int) *big.Int {
	power := new(big.Int).Exp(big.NewInt(int64(base)), big.NewInt(int64(times)), nil)
	return power.Sub(power, big.NewInt(1))
}

// divides reports whether a number below the line divides a number.
func divides(under int, n *big.Int) bool {
	return new(big.Int).Mod(n, big.NewInt(int64(under))).Sign() == 0
}

// knownPeriod is the least number of times that the base is to be taken until 1 less is a multiple of the number.
func knownPeriod(under int, base int) int {
	times := 1
	for !divides(under, nines(times, base)) {
		times++
	}
	return times
}

// knownText is the round of a number as text, without any rests: one less than the power of the base, divided by the number below the line, is the round of one, and others are multiples of it; noughts ahead are written.
func knownText(over int, under int, base int, period int) string {
	whole := nines(period, base)
	whole.Div(whole, big.NewInt(int64(under)))
	whole.Mul(whole, big.NewInt(int64(over)))
	text := whole.Text(base)
	return strings.Repeat("0", period-len(text)) + text
}

// textOf is a row of digits as text.
func textOf(digits []int, base int) string {
	var text strings.Builder
	for _, digit := range digits {
		text.WriteString(strconv.FormatInt(int64(digit), base))
	}
	return text.String()
}

// eachUnder calls for each base and each number below the line there is.
func eachUnder(f func(under int, base int)) {
	eachBase(func(base int) {
		for under := 1; under <= 200; under++ {
			if knownAlone(under, base) {
				f(under, base)
			}
		}
	})
}

// eachOver calls for each base, each number below the line and each number above it there is.
func eachOver(f func(over int, under int, base int)) {
	eachUnder(func(under int, base int) {
		for over := range under {
			f(over, under, base)
		}
	})
}

// eachNoUnder calls for numbers below the line and bases of which at least one is none, or which have a common divisor.
func eachNoUnder(f func(under int, base int)) {
	eachBase(func(base int) {
		for _, under := range badUnders {
			f(under, base)
		}
		for under := 1; under <= 200; under++ {
			if !knownAlone(under, base) {
				f(under, base)
			}
		}
	})
	for _, base := range badBases {
		for under := -2; under <= 203; under++ {
			f(under, base)
		}
		f(math.MinInt, base)
		f(math.MaxInt, base)
	}
}

// eachNoOver calls for all that has no round: numbers above the line that are none, and valid ones above others below it.
func eachNoOver(f func(over int, under int, base int)) {
	eachUnder(func(under int, base int) {
		for _, over := range []int{math.MinInt, -1000000000, -under - 1, -under, -under / 2, 1 - under, -2, -1, under, under + 1, 2*under - 1, 2 * under, 2*under + 1, 10 * under, 1000000000, 1 << 32 * under, 1<<32*under + 1, math.MaxInt} {
			if over < 0 || over >= under {
				f(over, under, base)
			}
		}
	})
	eachNoUnder(func(under int, base int) {
		for _, over := range []int{-1, 0, 1, 2, 5, under / 2, under - 1, under, math.MaxInt} {
			f(over, under, base)
		}
	})
}

// mustBegin fails unless the round of one is to be begun at the place.
func mustBegin(t *testing.T, over int, under int, base int, want int) {
	t.Helper()
	if got, ok := impl.BegunAt(over, under, base); got != want || !ok {
		t.Fatalf("BegunAt(%d, %d, %d) = %d %v, not %d", over, under, base, got, ok, want)
	}
}

// mustNotBegin fails unless there is no place at which the round of one is to be begun.
func mustNotBegin(t *testing.T, over int, under int, base int) {
	t.Helper()
	if got, ok := impl.BegunAt(over, under, base); got != -1 || ok {
		t.Fatalf("BegunAt(%d, %d, %d) = %d %v, not -1 false", over, under, base, got, ok)
	}
}

func TestUnderBound(t *testing.T) {
	if impl.MaxUnder != 200 {
		t.Fatal(impl.MaxUnder)
	}
}

// Promise 37.

func TestP37KnownUnders(t *testing.T) {
	cases := []struct {
		under, base int
		want        bool
	}{
		{1, 2, true}, {2, 2, false}, {3, 2, true}, {199, 2, true}, {200, 2, false},
		{1, 10, true}, {2, 10, false}, {3, 10, true}, {5, 10, false}, {7, 10, true}, {9, 10, true}, {10, 10, false}, {11, 10, true}, {15, 10, false}, {21, 10, true}, {199, 10, true}, {200, 10, false}, {201, 10, false},
		{2, 3, true}, {3, 3, false}, {200, 3, true}, {201, 3, false}, {202, 3, false}, {3, 6, false}, {25, 6, true}, {4, 6, false},
		{1, 16, true}, {2, 16, false}, {15, 16, true}, {16, 16, false}, {17, 16, true}, {200, 7, true}, {0, 10, false}, {-1, 10, false}, {-7, 10, false}, {7, 1, false}, {7, 17, false}, {1, 1, false}, {1, 0, false}, {7, -10, false},
	}
	for _, c := range cases {
		if got := impl.UnderOk(c.under, c.base); got != c.want {
			t.Fatalf("UnderOk(%d, %d) = %v", c.under, c.base, got)
		}
	}
}

func TestP37OneIsBelowEachLine(t *testing.T) {
	eachBase(func(base int) {
		if !impl.UnderOk(1, base) || !impl.UnderOk(base+1, base) || impl.UnderOk(base, base) {
			t.Fatal(base)
		}
	})
}

func TestP37AllThatHaveNothingInCommon(t *testing.T) {
	eachUnder(func(under int, base int) {
		if !impl.UnderOk(under, base) {
			t.Fatal(under, base)
		}
	})
}

func TestP37OthersAreNotBelowTheLine(t *testing.T) {
	eachNoUnder(func(under int, base int) {
		if impl.UnderOk(under, base) {
			t.Fatal(under, base)
		}
	})
}

// Promise 38.

func TestP38KnownPeriods(t *testing.T) {
	cases := []struct{ under, base, want int }{
		{1, 10, 1}, {3, 10, 1}, {7, 10, 6}, {9, 10, 1}, {11, 10, 2}, {13, 10, 6}, {17, 10, 16}, {21, 10, 6}, {27, 10, 3}, {37, 10, 3}, {41, 10, 5}, {49, 10, 42}, {73, 10, 8}, {81, 10, 9}, {99, 10, 2}, {101, 10, 4}, {199, 10, 99},
		{1, 2, 1}, {3, 2, 2}, {5, 2, 4}, {7, 2, 3}, {9, 2, 6}, {11, 2, 10}, {127, 2, 7}, {129, 2, 14}, {199, 2, 99},
		{1, 16, 1}, {3, 16, 1}, {7, 16, 3}, {15, 16, 1}, {17, 16, 2}, {199, 16, 99},
		{1, 3, 1}, {2, 3, 1}, {4, 3, 2}, {8, 3, 2}, {200, 3, 20}, {2, 15, 1}, {16, 15, 2}, {14, 15, 1}, {200, 7, 4},
	}
	for _, c := range cases {
		if got := impl.PeriodOf(c.under, c.base); got != c.want {
			t.Fatalf("PeriodOf(%d, %d) = %d, not %d", c.under, c.base, got, c.want)
		}
	}
}

func TestP38PeriodsAreAtMostOneLessThanTheNumber(t *testing.T) {
	eachUnder(func(under int, base int) {
		period := impl.PeriodOf(under, base)
		if period < 1 || under >= 2 && period > under-1 {
			t.Fatal(under, base, period)
		}
		if !divides(under, nines(period, base)) {
			t.Fatal("no multiple", under, base, period)
		}
		for lesser := 1; lesser < period; lesser++ {
			if divides(under, nines(lesser, base)) {
				t.Fatal("a lesser one", under, base, period, lesser)
			}
		}
	})
}

func TestP38OneAndTwoBelowTheLine(t *testing.T) {
	eachBase(func(base int) {
		if got := impl.PeriodOf(1, base); got != 1 {
			t.Fatal(1, base, got)
		}
		want := 1
		if base%2 == 0 {
			want = -1
		}
		if got := impl.PeriodOf(2, base); got != want {
			t.Fatal(2, base, got)
		}
		// The square of the base is one less than one more than the base, times this, so that it leaves 1.
		if got := impl.PeriodOf(base+1, base); got != 2 {
			t.Fatal("one more than the base", base, got)
		}
	})
}

func TestP38NoPeriodOfOthers(t *testing.T) {
	eachNoUnder(func(under int, base int) {
		if got := impl.PeriodOf(under, base); got != -1 {
			t.Fatalf("PeriodOf(%d, %d) = %d, not -1", under, base, got)
		}
	})
}

// Promise 39.

func TestP39KnownRounds(t *testing.T) {
	cases := []struct {
		over, under, base int
		want              []int
	}{
		{1, 7, 10, []int{1, 4, 2, 8, 5, 7}}, {2, 7, 10, []int{2, 8, 5, 7, 1, 4}}, {6, 7, 10, []int{8, 5, 7, 1, 4, 2}}, {0, 7, 10, []int{0, 0, 0, 0, 0, 0}},
		{1, 3, 10, []int{3}}, {2, 3, 10, []int{6}}, {0, 3, 10, []int{0}}, {1, 9, 10, []int{1}}, {8, 9, 10, []int{8}}, {0, 1, 10, []int{0}},
		{1, 11, 10, []int{0, 9}}, {10, 11, 10, []int{9, 0}}, {1, 13, 10, []int{0, 7, 6, 9, 2, 3}}, {2, 13, 10, []int{1, 5, 3, 8, 4, 6}}, {1, 101, 10, []int{0, 0, 9, 9}}, {1, 37, 10, []int{0, 2, 7}},
		// The digits of 1 and 2 divided by 3, and of 1 divided by 7, but as many as below the line there is 21.
		{7, 21, 10, []int{3, 3, 3, 3, 3, 3}}, {14, 21, 10, []int{6, 6, 6, 6, 6, 6}}, {3, 21, 10, []int{1, 4, 2, 8, 5, 7}},
		{0, 1, 2, []int{0}}, {1, 3, 2, []int{0, 1}}, {2, 3, 2, []int{1, 0}}, {1, 7, 2, []int{0, 0, 1}}, {6, 7, 2, []int{1, 1, 0}},
		{0, 1, 16, []int{0}}, {1, 17, 16, []int{0, 15}}, {16, 17, 16, []int{15, 0}}, {1, 15, 16, []int{1}}, {14, 15, 16, []int{14}}, {1, 7, 16, []int{2, 4, 9}},
		{1, 2, 3, []int{1}}, {0, 2, 3, []int{0}}, {1, 2, 15, []int{7}}, {199, 200, 7, []int{6, 6, 5, 1}}, {0, 200, 7, []int{0, 0, 0, 0}}, {1, 200, 7, []int{0, 0, 1, 5}},
	}
	for _, c := range cases {
		if got := impl.RoundOf(c.over, c.under, c.base); !slices.Equal(got, c.want) {
			t.Fatalf("RoundOf(%d, %d, %d) = %v, not %v", c.over, c.under, c.base, got, c.want)
		}
	}
}

func TestP39DigitsThatGoRoundTellTheNumber(t *testing.T) {
	eachUnder(func(under int, base int) {
		period := knownPeriod(under, base)
		below, multiple := big.NewInt(int64(under)), nines(period, base)
		for over := range under {
			digits := impl.RoundOf(over, under, base)
			if len(digits) != period || slices.Min(digits) < 0 || slices.Max(digits) >= base {
				t.Fatal("no digits, or not as many as the period", over, under, base, digits)
			}
			whole, ok := new(big.Int).SetString(textOf(digits, base), base)
			if !ok || whole.Mul(whole, below).Cmp(new(big.Int).Mul(multiple, big.NewInt(int64(over)))) != 0 {
				t.Fatal("another number", over, under, base, digits)
			}
		}
	})
}

func TestP39NumbersOfRoundsAreWholes(t *testing.T) {
	told := 0
	eachOver(func(over int, under int, base int) {
		digits := impl.RoundOf(over, under, base)
		whole, ok := impl.WholeOf(digits, base)
		nine, small := impl.WholeOf(slices.Repeat([]int{base - 1}, len(digits)), base)
		if !ok || !small || whole*under > impl.MaxWhole || over*nine > impl.MaxWhole {
			return
		}
		told++
		if whole*under != over*nine {
			t.Fatal(over, under, base, digits)
		}
	})
	if told == 0 {
		t.Fatal("nothing was told")
	}
}

func TestP39EachDigitIsThatOfTheRestBefore(t *testing.T) {
	eachOver(func(over int, under int, base int) {
		rest := over
		for place, digit := range impl.RoundOf(over, under, base) {
			// Put another way than by a division: the digit is taken as often as it may be, and what is left is less than the number.
			rest = rest*base - digit*under
			if rest < 0 || rest >= under {
				t.Fatal(over, under, base, place, digit, rest)
			}
		}
		if rest != over {
			t.Fatal("not round", over, under, base, rest)
		}
	})
}

func TestP39NoughtAndTheGreatestNumberAboveTheLine(t *testing.T) {
	eachUnder(func(under int, base int) {
		noughts := slices.Repeat([]int{0}, knownPeriod(under, base))
		if got := impl.RoundOf(0, under, base); !slices.Equal(got, noughts) {
			t.Fatal("nought", under, base, got)
		}
		if under == 1 {
			return
		}
		// One divided by the number, and the rest up to 1, are together 1: digits one less than the base alone.
		one, rest := impl.RoundOf(1, under, base), impl.RoundOf(under-1, under, base)
		if len(one) != len(rest) {
			t.Fatal("not as many", under, base, one, rest)
		}
		for place := range one {
			if one[place]+rest[place] != base-1 {
				t.Fatal("the greatest", under, base, one, rest)
			}
		}
	})
}

func TestP39NoRoundOfOthers(t *testing.T) {
	eachNoOver(func(over int, under int, base int) {
		if got := impl.RoundOf(over, under, base); len(got) != 0 {
			t.Fatalf("RoundOf(%d, %d, %d) = %v, not nil", over, under, base, got)
		}
	})
}

func TestP39RoundsAreNewMemory(t *testing.T) {
	eachUnder(func(under int, base int) {
		for _, over := range []int{0, 1 % under, under / 2, under - 1} {
			mustBeAlone(t, func() []int { return impl.RoundOf(over, under, base) })
		}
	})
}

// Promise 40.

func TestP40KnownHalves(t *testing.T) {
	cases := []struct {
		under, base int
		want        bool
	}{
		{7, 10, true}, {11, 10, true}, {13, 10, true}, {17, 10, true}, {19, 10, true}, {73, 10, true}, {101, 10, true}, {193, 10, true}, {197, 10, true},
		// An odd number of digits, of one digit among them.
		{1, 10, false}, {3, 10, false}, {9, 10, false}, {27, 10, false}, {31, 10, false}, {37, 10, false}, {41, 10, false}, {199, 10, false}, {1, 2, false}, {7, 2, false}, {1, 16, false}, {3, 16, false}, {7, 16, false}, {2, 3, false}, {2, 15, false},
		// Not prime: 49 and 77 hold, others of an even number of digits do not.
		{49, 10, true}, {77, 10, true}, {91, 10, true}, {21, 10, false}, {33, 10, false}, {39, 10, false}, {63, 10, false}, {99, 10, false}, {187, 10, false},
		{3, 2, true}, {5, 2, true}, {9, 2, true}, {15, 2, false}, {21, 2, false}, {17, 16, true}, {51, 16, false}, {85, 16, false}, {4, 3, true}, {8, 3, false}, {200, 3, false}, {200, 7, false},
		{2, 10, false}, {5, 10, false}, {0, 10, false}, {-7, 10, false}, {201, 10, false}, {211, 10, false}, {7, 1, false}, {7, 17, false}, {7, -10, false}, {7, 7, false},
	}
	for _, c := range cases {
		if got := impl.HalvesOk(c.under, c.base); got != c.want {
			t.Fatalf("HalvesOk(%d, %d) = %v", c.under, c.base, got)
		}
	}
}

func TestP40BothHalvesAreOneLessThanTheBase(t *testing.T) {
	primes := 0
	eachUnder(func(under int, base int) {
		if !knownPrime(under) || impl.PeriodOf(under, base)%2 != 0 {
			return
		}
		primes++
		if !impl.HalvesOk(under, base) {
			t.Fatal(under, base)
		}
	})
	if primes == 0 {
		t.Fatal("no prime was asked")
	}
}

func TestP40HalvesAddedAreOneLessThanAPower(t *testing.T) {
	eachUnder(func(under int, base int) {
		period := knownPeriod(under, base)
		want := false
		if half := period / 2; under >= 2 && period%2 == 0 {
			text := knownText(1, under, base, period)
			first, _ := new(big.Int).SetString(text[:half], base)
			second, _ := new(big.Int).SetString(text[half:], base)
			want = first.Add(first, second).Cmp(nines(half, base)) == 0
		}
		if got := impl.HalvesOk(under, base); got != want {
			t.Fatalf("HalvesOk(%d, %d) = %v", under, base, got)
		}
	})
}

func TestP40NoHalvesOfOthers(t *testing.T) {
	eachNoUnder(func(under int, base int) {
		if impl.HalvesOk(under, base) {
			t.Fatal(under, base)
		}
	})
}

// Promise 41.

func TestP41KnownFullRounds(t *testing.T) {
	cases := []struct {
		base int
		want []int
	}{
		{10, []int{7, 17, 19, 23, 29, 47, 59, 61, 97, 109, 113, 131, 149, 167, 179, 181, 193}},
		{2, []int{3, 5, 11, 13, 19, 29, 37, 53, 59, 61, 67, 83, 101, 107, 131, 139, 149, 163, 173, 179, 181, 197}},
		// In the base 3 the round of 2 is as long as it may be, too, but 2 is less than 3.
		{3, []int{5, 7, 17, 19, 29, 31, 43, 53, 79, 89, 101, 113, 127, 137, 139, 149, 163, 173, 197, 199}},
		// Squares: half as many digits as there may be are the most.
		{4, nil}, {9, nil}, {16, nil},
	}
	for _, c := range cases {
		var got []int
		for under := -1; under <= 210; under++ {
			if impl.FullOk(under, c.base) {
				got = append(got, under)
			}
		}
		if !slices.Equal(got, c.want) {
			t.Fatalf("FullOk in the base %d: %v, not %v", c.base, got, c.want)
		}
	}
}

func TestP41FullRoundsAreOfPrimes(t *testing.T) {
	full := 0
	eachUnder(func(under int, base int) {
		got := impl.FullOk(under, base)
		if got != (under >= 3 && knownPeriod(under, base) == under-1) {
			t.Fatal(under, base, got)
		}
		if !got {
			return
		}
		full++
		if !knownPrime(under) {
			t.Fatal("not prime", under, base)
		}
		one := impl.RoundOf(1, under, base)
		for over := 1; over < under; over++ {
			place, ok := impl.BegunAt(over, under, base)
			if !ok || !slices.Equal(impl.RoundOf(over, under, base), append(slices.Clone(one[place:]), one[:place]...)) {
				t.Fatal("not begun elsewhere", over, under, base, place, ok)
			}
		}
	})
	if full == 0 {
		t.Fatal("no full round was asked")
	}
}

func TestP41OneAndTwoAreNotFull(t *testing.T) {
	eachBase(func(base int) {
		if impl.FullOk(1, base) || impl.FullOk(2, base) {
			t.Fatal(base)
		}
		// Two digits are as many as may be only if the number is 3.
		if impl.FullOk(base+1, base) != (base == 2) {
			t.Fatal("one more than the base", base)
		}
	})
}

func TestP41OthersAreNotFull(t *testing.T) {
	eachNoUnder(func(under int, base int) {
		if impl.FullOk(under, base) {
			t.Fatal(under, base)
		}
	})
}

// Promise 42.

func TestP42KnownPlaces(t *testing.T) {
	cases := []struct{ over, under, base, want int }{
		{1, 7, 10, 0}, {3, 7, 10, 1}, {2, 7, 10, 2}, {6, 7, 10, 3}, {4, 7, 10, 4}, {5, 7, 10, 5},
		{1, 3, 10, 0}, {1, 9, 10, 0}, {1, 11, 10, 0}, {10, 11, 10, 1}, {10, 13, 10, 1}, {9, 13, 10, 2}, {12, 13, 10, 3}, {4, 13, 10, 5}, {16, 21, 10, 2}, {1, 199, 10, 0},
		{1, 3, 2, 0}, {2, 3, 2, 1}, {4, 7, 2, 2}, {1, 2, 3, 0}, {1, 17, 16, 0}, {16, 17, 16, 1}, {1, 15, 16, 0}, {1, 200, 7, 0}, {7, 200, 7, 1}, {143, 200, 7, 3},
	}
	for _, c := range cases {
		mustBegin(t, c.over, c.under, c.base, c.want)
	}
}

func TestP42OtherRoundsAreNotBegunElsewhere(t *testing.T) {
	cases := []struct{ over, under, base int }{
		{0, 7, 10}, {0, 3, 10}, {2, 3, 10}, {2, 9, 10}, {8, 9, 10}, {2, 11, 10}, {9, 11, 10}, {2, 13, 10}, {5, 13, 10}, {3, 21, 10}, {7, 21, 10}, {14, 21, 10},
		{0, 3, 2}, {3, 7, 2}, {0, 2, 3}, {2, 17, 16}, {2, 15, 16}, {0, 200, 7}, {2, 200, 7}, {199, 200, 7},
		// 1 below the line, with the only number above it, and with others.
		{0, 1, 10}, {0, 1, 2}, {0, 1, 16}, {1, 1, 10}, {-1, 1, 10},
	}
	for _, c := range cases {
		mustNotBegin(t, c.over, c.under, c.base)
	}
}

func TestP42BegunElsewhereTheDigitsAreThoseOfAMultiple(t *testing.T) {
	eachUnder(func(under int, base int) {
		if under == 1 {
			return
		}
		period := knownPeriod(under, base)
		twice := strings.Repeat(knownText(1, under, base, period), 2)
		for over := range under {
			want := strings.Index(twice, knownText(over, under, base, period))
			if want < 0 {
				mustNotBegin(t, over, under, base)
			} else {
				mustBegin(t, over, under, base, want)
			}
		}
	})
}

func TestP42TheRoundOfOneBegunAtThePlaceIsTheRound(t *testing.T) {
	eachOver(func(over int, under int, base int) {
		place, ok := impl.BegunAt(over, under, base)
		if !ok {
			return
		}
		if place < 0 || place >= impl.PeriodOf(under, base) {
			t.Fatal("the place", over, under, base, place)
		}
		one := impl.RoundOf(1, under, base)
		if begun := append(slices.Clone(one[place:]), one[:place]...); !slices.Equal(begun, impl.RoundOf(over, under, base)) {
			t.Fatal("another round", over, under, base, place, begun)
		}
	})
}

func TestP42OnesRoundIsBegunAtNought(t *testing.T) {
	eachUnder(func(under int, base int) {
		if under == 1 {
			mustNotBegin(t, 0, 1, base)
			return
		}
		mustBegin(t, 1, under, base, 0)
		mustNotBegin(t, 0, under, base)
	})
}

func TestP42NoPlaceOfOthers(t *testing.T) {
	eachNoOver(func(over int, under int, base int) { mustNotBegin(t, over, under, base) })
}
