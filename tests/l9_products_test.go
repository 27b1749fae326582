package tests

import (
	"math"
	"slices"
	"strconv"
	"testing"

	"loop.example/returningdigits/impl"
)

// badSteps are no steps: below none, and far below.
var badSteps = []int{math.MinInt, math.MinInt + 1, -1 << 32, -1000000000, -256, -10, -3, -2, -1}

// knownProduct is the product of the digits that the standard library writes.
func knownProduct(n int, base int) int {
	product := 1
	for _, digit := range knownDigits(n, base) {
		product *= digit
	}
	return product
}

// knownPersists are the steps until there is one digit, and that digit.
func knownPersists(n int, base int) (int, int) {
	steps := 0
	for len(knownDigits(n, base)) > 1 {
		n = knownProduct(n, base)
		steps++
	}
	return steps, n
}

// fullWholes are numbers without a digit 0, of one digit and more, up to MaxWhole: with digits of all kinds, with great ones alone, and with digits 1 alone.
func fullWholes(base int) []int {
	var list []int
	keep := func(seed int, most int) {
		n := 0
		for long := 0; ; long++ {
			digit := base - 1 - (seed+long*long*(seed%7+1)+long/2)%most
			if n > (impl.MaxWhole-digit)/base {
				return
			}
			n = n*base + digit
			list = append(list, n)
		}
	}
	for seed := range 40 {
		keep(seed, base-1)
		keep(seed, min(3, base-1))
	}
	keep(0, 1)
	for ones := 1; ones <= impl.MaxWhole; ones = ones*base + 1 {
		list = append(list, ones)
	}
	slices.Sort(list)
	return slices.Compact(list)
}

// productWholes are numbers for all that is multiplied: someWholes, and fullWholes, of which most have products that are not 0.
func productWholes(base int) []int {
	list := append(someWholes(base), fullWholes(base)...)
	slices.Sort(list)
	return slices.Compact(list)
}

// ordered is the number of the same digits, the greatest ones last.
func ordered(n int, base int) int {
	text := []byte(strconv.FormatInt(int64(n), base))
	slices.Sort(text)
	whole, _ := strconv.ParseInt(string(text), base, 64)
	return int(whole)
}

// withOnes are the numbers of the same digits and one digit 1 more, at each place, that are at most MaxWhole.
func withOnes(n int, base int) []int {
	var list []int
	text := strconv.FormatInt(int64(n), base)
	for place := range len(text) + 1 {
		more, _ := strconv.ParseInt(text[:place]+"1"+text[place:], base, 64)
		if more <= impl.MaxWhole {
			list = append(list, int(more))
		}
	}
	return list
}

// mustPersist fails unless a number takes so many steps to the digit.
func mustPersist(t *testing.T, n int, base int, wantSteps int, wantLast int) {
	t.Helper()
	if steps, last, ok := impl.PersistsOf(n, base); steps != wantSteps || last != wantLast || !ok {
		t.Fatalf("PersistsOf(%d, %d) = %d %d %v, not %d %d", n, base, steps, last, ok, wantSteps, wantLast)
	}
}

// mustLeast fails unless the number is the least one of so many steps.
func mustLeast(t *testing.T, steps int, base int, want int) {
	t.Helper()
	if got := impl.LeastPersisting(steps, base); got != want {
		t.Fatalf("LeastPersisting(%d, %d) = %d, not %d", steps, base, got, want)
	}
}

func TestTriedBound(t *testing.T) {
	if impl.MaxTried != 3000 {
		t.Fatal(impl.MaxTried)
	}
}

// Promise 43.

func TestP43KnownProducts(t *testing.T) {
	cases := []struct{ n, base, want int }{
		{0, 2, 0}, {0, 10, 0}, {0, 16, 0}, {1, 2, 1}, {1, 16, 1}, {7, 10, 7}, {9, 10, 9}, {15, 16, 15},
		{10, 10, 0}, {11, 10, 1}, {12, 10, 2}, {21, 10, 2}, {25, 10, 10}, {39, 10, 27}, {77, 10, 49}, {99, 10, 81}, {100, 10, 0}, {111, 10, 1},
		{327, 10, 42}, {732, 10, 42}, {3271, 10, 42}, {3127, 10, 42}, {1327, 10, 42}, {3270, 10, 0}, {3207, 10, 0}, {205, 10, 0}, {250, 10, 0},
		{2, 2, 0}, {3, 2, 1}, {5, 2, 0}, {6, 2, 0}, {7, 2, 1}, {536870911, 2, 1}, {536870910, 2, 0}, {1000000000, 2, 0},
		{8, 3, 4}, {26, 3, 8}, {0xff, 16, 225}, {0x1f, 16, 15}, {0xf1, 16, 15}, {0xf0, 16, 0}, {16, 16, 0}, {0xabc, 16, 1320},
		{123456789, 10, 362880}, {999999999, 10, 387420489}, {999999998, 10, 344373768}, {999999990, 10, 0}, {1000000000, 10, 0},
		{0xfffffff, 16, 170859375}, {999999999, 16, 72171000}, {815730720, 13, 429981696}, {815730721, 13, 0}, {1000000000, 16, 0}, {1000000000, 7, 0},
	}
	for _, c := range cases {
		if got := impl.DigitProduct(c.n, c.base); got != c.want {
			t.Fatalf("DigitProduct(%d, %d) = %d, not %d", c.n, c.base, got, c.want)
		}
	}
}

func TestP43ProductsAreSmaller(t *testing.T) {
	eachBase(func(base int) {
		noughts, others := 0, 0
		for _, n := range productWholes(base) {
			got := impl.DigitProduct(n, base)
			if got != knownProduct(n, base) || got > n || (got == n) != (impl.LongOf(n, base) == 1) {
				t.Fatal(n, base, got)
			}
			if got == 0 {
				noughts++
			} else {
				others++
			}
		}
		if noughts < 50 || others < 25 {
			t.Fatal("too few are tested", base, noughts, others)
		}
	})
}

func TestP43OneBehindChangesNothingAndNoughtMakesItNought(t *testing.T) {
	eachBase(func(base int) {
		for _, n := range productWholes(base) {
			if one, ok := impl.BehindOf(n, 1, base); ok && n != 0 && impl.DigitProduct(one, base) != impl.DigitProduct(n, base) {
				t.Fatal("a 1 behind", n, base, one)
			}
			if nought, ok := impl.BehindOf(n, 0, base); ok && impl.DigitProduct(nought, base) != 0 {
				t.Fatal("a 0 behind", n, base, nought)
			}
		}
		// Of 0 the 1 behind is one digit alone.
		if one, ok := impl.BehindOf(0, 1, base); !ok || impl.DigitProduct(one, base) != 1 {
			t.Fatal("a 1 behind 0", base, one, ok)
		}
	})
}

func TestP43OrderAndOnesChangeNothing(t *testing.T) {
	eachBase(func(base int) {
		for _, n := range fullWholes(base) {
			want := impl.DigitProduct(n, base)
			if turned := impl.TurnedOf(n, base); turned >= 0 && impl.DigitProduct(turned, base) != want {
				t.Fatal("turned round", n, base, turned)
			}
			if other := ordered(n, base); impl.DigitProduct(other, base) != want {
				t.Fatal("in order", n, base, other)
			}
			for _, more := range withOnes(n, base) {
				if got := impl.DigitProduct(more, base); got != want {
					t.Fatal("with a digit 1", n, base, more, got)
				}
			}
		}
	})
}

func TestP43NoProductOfOthers(t *testing.T) {
	mustRefuse(t, "DigitProduct", impl.DigitProduct)
}

// Promise 44.

func TestP44KnownSteps(t *testing.T) {
	cases := []struct{ n, base, steps, last int }{
		{0, 2, 0, 0}, {0, 10, 0, 0}, {0, 16, 0, 0}, {1, 2, 0, 1}, {9, 10, 0, 9}, {15, 16, 0, 15}, {1, 16, 0, 1},
		{10, 10, 1, 0}, {11, 10, 1, 1}, {12, 10, 1, 2}, {19, 10, 1, 9}, {25, 10, 2, 0}, {26, 10, 2, 2}, {39, 10, 3, 4}, {77, 10, 4, 8}, {679, 10, 5, 6}, {976, 10, 5, 6}, {16791, 10, 5, 6},
		{100, 10, 1, 0}, {205, 10, 1, 0}, {7077, 10, 1, 0}, {327, 10, 2, 8}, {999, 10, 4, 2}, {55, 10, 3, 0}, {99, 10, 2, 8},
		{6788, 10, 6, 0}, {68889, 10, 7, 0}, {2677889, 10, 8, 0}, {26888999, 10, 9, 0},
		{2, 2, 1, 0}, {3, 2, 1, 1}, {5, 2, 1, 0}, {7, 2, 1, 1}, {536870911, 2, 1, 1}, {1000000000, 2, 1, 0},
		{8, 3, 2, 1}, {26, 3, 3, 1}, {63, 4, 3, 2}, {2344, 5, 4, 3}, {172, 6, 4, 2},
		{16, 16, 1, 0}, {0x11, 16, 1, 1}, {0xff, 16, 2, 14}, {0x28, 16, 2, 0}, {0x2ab, 16, 6, 0}, {0xfffffff, 16, 4, 0},
		{123456789, 10, 2, 0}, {999999999, 10, 2, 0}, {999999999, 16, 3, 0}, {1000000000, 10, 1, 0}, {1000000000, 16, 1, 0},
	}
	for _, c := range cases {
		mustPersist(t, c.n, c.base, c.steps, c.last)
	}
}

func TestP44EachStepIsOneFewer(t *testing.T) {
	eachBase(func(base int) {
		greatest := 0
		for _, n := range productWholes(base) {
			steps, last := knownPersists(n, base)
			mustPersist(t, n, base, steps, last)
			if (steps == 0) != (impl.LongOf(n, base) == 1) || last < 0 || last >= base {
				t.Fatal(n, base, steps, last)
			}
			if steps == 0 {
				if last != n {
					t.Fatal("not the one digit", n, base, last)
				}
				continue
			}
			mustPersist(t, impl.DigitProduct(n, base), base, steps-1, last)
			greatest = max(greatest, steps)
		}
		// In the base 2 each product is one digit.
		if greatest < 3 && base > 2 || base == 2 && greatest != 1 {
			t.Fatal("too few steps are tested", base, greatest)
		}
	})
}

func TestP44NoughtEndsItAtOnce(t *testing.T) {
	eachBase(func(base int) {
		with := 0
		for _, n := range productWholes(base) {
			if digits := knownDigits(n, base); len(digits) > 1 && slices.Contains(digits, 0) {
				mustPersist(t, n, base, 1, 0)
				with++
			}
		}
		if with < 50 {
			t.Fatal("too few are tested", base, with)
		}
	})
}

func TestP44OthersDoNotPersist(t *testing.T) {
	eachNoNumber(func(n int, base int) {
		if steps, last, ok := impl.PersistsOf(n, base); steps != -1 || last != -1 || ok {
			t.Fatalf("PersistsOf(%d, %d) = %d %d %v, not -1 -1 false", n, base, steps, last, ok)
		}
	})
}

// Promise 45.

func TestP45KnownLeast(t *testing.T) {
	cases := []struct {
		base  int
		least []int
	}{
		{2, []int{0, 2, -1, -1, -1}},
		{3, []int{0, 3, 8, 26, -1, -1}},
		{4, []int{0, 4, 10, 63, -1, -1}},
		{5, []int{0, 5, 13, 68, 2344, -1, -1}},
		{6, []int{0, 6, 15, 23, 172, -1, -1}},
		{10, []int{0, 10, 25, 39, 77, 679, -1, -1, -1}},
		{13, []int{0, 13, 33, 50, 75, 127, 439, 1494, -1, -1}},
		{14, []int{0, 14, 35, 54, 81, 135, 667, 2532, -1, -1}},
		{16, []int{0, 16, 40, 62, 95, 187, 683, -1, -1, -1}},
	}
	for _, c := range cases {
		for steps, want := range c.least {
			mustLeast(t, steps, c.base, want)
		}
	}
}

func TestP45NoLesserNumberTakesSoManySteps(t *testing.T) {
	eachBase(func(base int) {
		// All numbers are tried here, the greatest first, so that the least one stays.
		least := map[int]int{}
		for n := impl.MaxTried; n >= 0; n-- {
			steps, _ := knownPersists(n, base)
			least[steps] = n
		}
		for steps := range 40 {
			want, found := least[steps]
			if !found {
				mustLeast(t, steps, base, -1)
				continue
			}
			mustLeast(t, steps, base, want)
			if taken, _, ok := impl.PersistsOf(want, base); taken != steps || !ok {
				t.Fatal(steps, base, want, taken)
			}
			for n := range want {
				if taken, _, _ := impl.PersistsOf(n, base); taken == steps {
					t.Fatal("a lesser number", steps, base, want, n)
				}
			}
		}
	})
}

func TestP45MoreStepsNeedGreaterNumbers(t *testing.T) {
	eachBase(func(base int) {
		last, ended := -1, false
		for steps := range 40 {
			least := impl.LeastPersisting(steps, base)
			if least < 0 {
				ended = true
				continue
			}
			// From 2 steps on the digits of the least number are in order, without noughts.
			if ended || least <= last || least > impl.MaxTried || steps > 1 && ordered(least, base) != least {
				t.Fatal(steps, base, last, least)
			}
			last = least
		}
		if !ended {
			t.Fatal("no end", base, last)
		}
	})
}

func TestP45NoStepsIsNought(t *testing.T) {
	eachBase(func(base int) {
		mustLeast(t, 0, base, 0)
		mustLeast(t, 1, base, base)
	})
}

func TestP45NoneTakesMore(t *testing.T) {
	// 6788 takes 6 steps in the base 10, but it is not tried.
	mustPersist(t, 6788, 10, 6, 0)
	mustLeast(t, 6, 10, -1)
	eachBase(func(base int) {
		for _, steps := range []int{8, 9, 10, 11, 12, 20, 100, 255, 256, 257, 3000, 3001, 65536, 1000000000, 1 << 32, 1<<32 + 1, math.MaxInt - 1, math.MaxInt} {
			mustLeast(t, steps, base, -1)
		}
	})
}

func TestP45NoLeastOfOthers(t *testing.T) {
	eachBase(func(base int) {
		for _, steps := range badSteps {
			mustLeast(t, steps, base, -1)
		}
	})
	for _, base := range badBases {
		for steps := -3; steps <= 12; steps++ {
			mustLeast(t, steps, base, -1)
		}
		mustLeast(t, math.MinInt, base, -1)
		mustLeast(t, math.MaxInt, base, -1)
	}
}

// Promise 46.

func TestP46KnownNoughts(t *testing.T) {
	cases := []struct {
		n, base int
		want    bool
	}{
		{0, 2, false}, {0, 10, false}, {0, 16, false}, {1, 2, true}, {1, 10, true}, {9, 10, true}, {15, 16, true},
		{10, 10, false}, {11, 10, true}, {99, 10, true}, {100, 10, false}, {101, 10, false}, {103, 10, false}, {120, 10, false}, {123, 10, true},
		{2, 2, false}, {3, 2, true}, {5, 2, false}, {6, 2, false}, {7, 2, true}, {536870911, 2, true}, {536870910, 2, false}, {1000000000, 2, false},
		{16, 16, false}, {17, 16, true}, {255, 16, true}, {256, 16, false}, {10, 16, true}, {100, 16, true}, {0xa0a, 16, false}, {0xaaa, 16, true},
		{123456789, 10, true}, {123406789, 10, false}, {999999999, 10, true}, {1000000000, 10, false}, {999999999, 16, true}, {1000000000, 16, false},
	}
	for _, c := range cases {
		if got := impl.NoNought(c.n, c.base); got != c.want {
			t.Fatalf("NoNought(%d, %d) = %v", c.n, c.base, got)
		}
	}
}

func TestP46NoDigitIsNought(t *testing.T) {
	eachBase(func(base int) {
		with, without := 0, 0
		for _, n := range productWholes(base) {
			got := impl.NoNought(n, base)
			if got == slices.Contains(knownDigits(n, base), 0) || got == slices.Contains(impl.DigitsOf(n, base), 0) {
				t.Fatal(n, base, got)
			}
			if got != (impl.DigitProduct(n, base) != 0) {
				t.Fatal("not as the product is", n, base, got)
			}
			if got {
				without++
			} else {
				with++
			}
		}
		if with < 50 || without < 25 {
			t.Fatal("too few are tested", base, with, without)
		}
	})
}

func TestP46FullNumbersHaveNone(t *testing.T) {
	eachBase(func(base int) {
		for _, n := range fullWholes(base) {
			if !impl.NoNought(n, base) {
				t.Fatal(n, base)
			}
		}
	})
}

func TestP46TurnedRoundThereIsNone(t *testing.T) {
	eachBase(func(base int) {
		for _, n := range productWholes(base) {
			turned := impl.TurnedOf(n, base)
			if turned >= 0 && impl.NoNought(n, base) && !impl.NoNought(turned, base) {
				t.Fatal(n, base, turned)
			}
		}
	})
	// But not the other way round: the noughts at the end are gone.
	if impl.NoNought(120, 10) || !impl.NoNought(impl.TurnedOf(120, 10), 10) {
		t.Fatal("120 turned round is 21")
	}
}

func TestP46OthersHaveNoDigits(t *testing.T) {
	eachNoNumber(func(n int, base int) {
		if impl.NoNought(n, base) {
			t.Fatal(n, base)
		}
	})
}
