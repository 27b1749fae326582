package tests

import (
	"math"
	"slices"
	"testing"

	"loop.example/returningdigits/impl"
)

// badOwn are numbers of which nothing is told: just outside of both bounds, and far from them.
var badOwn = []int{math.MinInt, -2000, -10, -2, -1, 2001, 2002, 4000, 1000000000, 1000000001, math.MaxInt}

// badRules are no rules: just outside of both bounds, and far from them.
var badRules = []int{math.MinInt, -3, -1, 3, 4, 10, math.MaxInt}

// badOwnBases are no bases of own numbers, though those from 11 to 16 are bases.
var badOwnBases = []int{math.MinInt, -10, -2, -1, 0, 1, 11, 12, 15, 16, 17, 18, 36, math.MaxInt}

// eachOwnRule calls for each rule and each base of own numbers.
func eachOwnRule(f func(rule int, base int)) {
	for base := 2; base <= 10; base++ {
		for rule := range 3 {
			f(rule, base)
		}
	}
}

// eachNotTold calls for numbers, rules and bases of which at least one is none.
func eachNotTold(f func(n int, rule int, base int)) {
	eachOwnRule(func(rule int, base int) {
		for _, n := range badOwn {
			f(n, rule, base)
		}
	})
	for _, n := range []int{-1, 0, 1, 2, 9, 10, 145, 153, 2000, 2001} {
		for _, rule := range badRules {
			for base := 0; base <= 17; base++ {
				f(n, rule, base)
			}
		}
		for _, base := range badOwnBases {
			for rule := -1; rule <= 3; rule++ {
				f(n, rule, base)
			}
		}
	}
}

// knownAdds are what the digits 0 to 9 add by the rules 1 and 2.
var knownAdds = [3][10]int{
	1: {1, 1, 2, 6, 24, 120, 720, 5040, 40320, 362880},
	2: {1, 1, 4, 27, 256, 3125, 46656, 823543, 16777216, 387420489},
}

// knownOwnSum is the sum by a rule of the digits that the standard library writes.
func knownOwnSum(n int, rule int, base int) int {
	digits := knownDigits(n, base)
	sum := 0
	for _, digit := range digits {
		if rule == 0 {
			sum += int(math.Round(math.Pow(float64(digit), float64(len(digits)))))
		} else {
			sum += knownAdds[rule][digit]
		}
	}
	return sum
}

// knownSteps are the numbers that follow a number, with those that were there kept in a map.
func knownSteps(n int, rule int, base int) []int {
	there := map[int]bool{}
	var steps []int
	for n <= 2000 && !there[n] && len(steps) < 60 {
		there[n] = true
		steps = append(steps, n)
		n = knownOwnSum(n, rule, base)
	}
	return steps
}

// Promise 16.

func TestP16KnownSums(t *testing.T) {
	cases := []struct{ n, rule, base, want int }{
		{0, 0, 10, 0}, {0, 1, 10, 1}, {0, 2, 10, 1}, {0, 0, 2, 0}, {0, 1, 2, 1}, {0, 2, 2, 1},
		{1, 0, 10, 1}, {1, 1, 10, 1}, {1, 2, 10, 1}, {1, 0, 2, 1}, {1, 1, 2, 1}, {1, 2, 2, 1},
		{9, 0, 10, 9}, {9, 1, 10, 362880}, {9, 2, 10, 387420489}, {3, 1, 10, 6}, {3, 2, 10, 27},
		{10, 0, 10, 1}, {10, 1, 10, 2}, {10, 2, 10, 2}, {100, 1, 10, 3}, {100, 2, 10, 3},
		{2, 0, 2, 1}, {2, 1, 2, 2}, {2, 2, 2, 2}, {1024, 0, 2, 1}, {1024, 1, 2, 11}, {1024, 2, 2, 11},
		{12, 0, 10, 5}, {21, 0, 10, 5}, {153, 0, 10, 153}, {1634, 0, 10, 1634}, {99, 0, 10, 162}, {999, 0, 10, 2187},
		{145, 1, 10, 145}, {153, 1, 10, 127}, {22, 2, 10, 8}, {345, 2, 10, 3408}, {153, 2, 10, 3153},
		{2000, 0, 10, 16}, {2000, 1, 10, 5}, {2000, 2, 10, 7}, {1999, 0, 10, 19684}, {1999, 1, 10, 1088641}, {1999, 2, 10, 1162261468},
		{2000, 0, 2, 6}, {2000, 1, 2, 11}, {2000, 2, 2, 11}, {2000, 0, 9, 2624}, {2000, 0, 3, 512},
	}
	for _, c := range cases {
		if got := impl.OwnSum(c.n, c.rule, c.base); got != c.want {
			t.Fatalf("OwnSum(%d, %d, %d) = %d, not %d", c.n, c.rule, c.base, got, c.want)
		}
	}
}

func TestP16SumsAreThoseOfKnownDigits(t *testing.T) {
	eachOwnRule(func(rule int, base int) {
		for n := 0; n <= 2000; n++ {
			if got, want := impl.OwnSum(n, rule, base), knownOwnSum(n, rule, base); got != want {
				t.Fatalf("OwnSum(%d, %d, %d) = %d, not %d", n, rule, base, got, want)
			}
		}
	})
}

func TestP16OneDigitIsItself(t *testing.T) {
	for base := 2; base <= 10; base++ {
		for n := range base {
			if got := impl.OwnSum(n, 0, base); got != n {
				t.Fatal(n, base, got)
			}
		}
	}
}

func TestP16BehindALastDigitNought(t *testing.T) {
	eachOwnRule(func(rule int, base int) {
		more := 0
		if rule == 0 {
			more = 1
		}
		for n := 0; n+1 <= 2000; n += base {
			got, next := impl.OwnSum(n, rule, base), impl.OwnSum(n+1, rule, base)
			if next != got+more {
				t.Fatal(n, rule, base, got, next)
			}
		}
	})
}

func TestP16NoSumOfOthers(t *testing.T) {
	eachNotTold(func(n int, rule int, base int) {
		if got := impl.OwnSum(n, rule, base); got != -1 {
			t.Fatalf("OwnSum(%d, %d, %d) = %d, not -1", n, rule, base, got)
		}
	})
}

// Promise 17.

func TestP17KnownOwn(t *testing.T) {
	cases := []struct {
		n, rule, base int
		want          bool
	}{
		{153, 0, 10, true}, {370, 0, 10, true}, {371, 0, 10, true}, {372, 0, 10, false}, {1634, 0, 10, true}, {1635, 0, 10, false},
		{0, 0, 10, true}, {9, 0, 10, true}, {10, 0, 10, false}, {0, 0, 2, true}, {1, 0, 2, true}, {2, 0, 2, false},
		{0, 1, 10, false}, {1, 1, 10, true}, {2, 1, 10, true}, {3, 1, 10, false}, {145, 1, 10, true}, {146, 1, 10, false},
		{0, 2, 10, false}, {1, 2, 10, true}, {2, 2, 10, false}, {2, 2, 2, true}, {5, 2, 3, true}, {28, 2, 9, true}, {29, 2, 9, false},
		{17, 0, 3, true}, {133, 0, 7, true}, {134, 0, 7, true}, {1824, 0, 9, true}, {2000, 0, 10, false}, {2000, 2, 2, false},
	}
	for _, c := range cases {
		if got := impl.OwnOk(c.n, c.rule, c.base); got != c.want {
			t.Fatalf("OwnOk(%d, %d, %d) = %v", c.n, c.rule, c.base, got)
		}
	}
}

func TestP17OwnIsItsSum(t *testing.T) {
	eachOwnRule(func(rule int, base int) {
		for n := 0; n <= 2000; n++ {
			got := impl.OwnOk(n, rule, base)
			if got != (knownOwnSum(n, rule, base) == n) || got != (impl.OwnSum(n, rule, base) == n) {
				t.Fatal(n, rule, base, got)
			}
		}
	})
}

func TestP17BehindAnOwnNumberWithNoughtThereIsOne(t *testing.T) {
	for base := 2; base <= 10; base++ {
		for n := 0; n+1 <= 2000; n += base {
			if impl.OwnOk(n, 0, base) && !impl.OwnOk(n+1, 0, base) {
				t.Fatal(n, base)
			}
		}
		for n := range base {
			if !impl.OwnOk(n, 0, base) {
				t.Fatal("one digit", n, base)
			}
		}
	}
}

func TestP17OthersAreNotOwn(t *testing.T) {
	eachNotTold(func(n int, rule int, base int) {
		if impl.OwnOk(n, rule, base) {
			t.Fatal(n, rule, base)
		}
	})
}

// Promise 18.

func TestP18KnownOwnNumbers(t *testing.T) {
	cases := []struct {
		most, rule, base int
		want             []int
	}{
		{2000, 0, 10, []int{0, 1, 2, 3, 4, 5, 6, 7, 8, 9, 153, 370, 371, 407, 1634}},
		{2000, 1, 10, []int{1, 2, 145}}, {2000, 2, 10, []int{1}},
		{2000, 0, 2, []int{0, 1}}, {2000, 1, 2, []int{1, 2}}, {2000, 2, 2, []int{1, 2}},
		{2000, 0, 3, []int{0, 1, 2, 5, 8, 17}}, {2000, 1, 6, []int{1, 2, 25, 26}}, {2000, 2, 4, []int{1, 29, 55}},
		{0, 0, 10, []int{0}}, {0, 1, 10, nil}, {0, 2, 10, nil}, {1, 1, 10, []int{1}}, {1, 2, 2, []int{1}},
		{144, 1, 10, []int{1, 2}}, {145, 1, 10, []int{1, 2, 145}},
		{1633, 0, 10, []int{0, 1, 2, 3, 4, 5, 6, 7, 8, 9, 153, 370, 371, 407}},
		{9, 0, 10, []int{0, 1, 2, 3, 4, 5, 6, 7, 8, 9}},
	}
	for _, c := range cases {
		if got := impl.OwnUpTo(c.most, c.rule, c.base); !slices.Equal(got, c.want) {
			t.Fatalf("OwnUpTo(%d, %d, %d) = %v, not %v", c.most, c.rule, c.base, got, c.want)
		}
	}
}

func TestP18MoreNumbersHaveNoFewerOwn(t *testing.T) {
	eachOwnRule(func(rule int, base int) {
		var want []int
		for most := 0; most <= 2000; most++ {
			if knownOwnSum(most, rule, base) == most {
				want = append(want, most)
			}
			// An own number and those beside it are always asked; of the others some are.
			near := len(want) > 0 && most <= want[len(want)-1]+1
			if !near && most%97 != 0 && most < 1998 {
				continue
			}
			got := impl.OwnUpTo(most, rule, base)
			if !slices.Equal(got, want) {
				t.Fatal(most, rule, base, got, want)
			}
			for _, n := range got {
				if !impl.OwnOk(n, rule, base) {
					t.Fatal(most, rule, base, n)
				}
			}
			if most == 2000 {
				continue
			}
			if impl.OwnOk(most+1, rule, base) {
				got = append(slices.Clone(got), most+1)
			}
			if more := impl.OwnUpTo(most+1, rule, base); !slices.Equal(more, got) {
				t.Fatal("up to one more", most, rule, base, got, more)
			}
		}
	})
}

func TestP18NoOwnNumbersOfOthers(t *testing.T) {
	eachNotTold(func(most int, rule int, base int) {
		if got := impl.OwnUpTo(most, rule, base); len(got) != 0 {
			t.Fatalf("OwnUpTo(%d, %d, %d) = %v, not nil", most, rule, base, got)
		}
	})
}

func TestP18OwnNumbersAreNewMemory(t *testing.T) {
	eachOwnRule(func(rule int, base int) {
		for _, most := range []int{0, 1, 5, 400, 2000} {
			mustBeAlone(t, func() []int { return impl.OwnUpTo(most, rule, base) })
		}
	})
}

// Promise 19.

func TestP19KnownSteps(t *testing.T) {
	cases := []struct {
		n, rule, base int
		want          []int
	}{
		{153, 0, 10, []int{153}}, {0, 0, 10, []int{0}}, {9, 0, 10, []int{9}}, {1, 1, 10, []int{1}}, {1, 2, 2, []int{1}},
		{0, 1, 10, []int{0, 1}}, {0, 2, 10, []int{0, 1}}, {3, 1, 10, []int{3, 6, 720}}, {4, 2, 10, []int{4, 256}},
		{8, 1, 10, []int{8}}, {9, 2, 10, []int{9}}, {1999, 1, 10, []int{1999}}, {1999, 0, 10, []int{1999}},
		{169, 1, 10, []int{169}}, {10, 0, 10, []int{10, 1}}, {2000, 0, 10, []int{2000, 16, 37, 58, 89, 145, 190, 730, 370}},
		{136, 0, 10, []int{136, 244}}, {244, 0, 10, []int{244, 136}}, {2000, 1, 10, []int{2000, 5, 120, 4, 24, 26, 722}},
	}
	for _, c := range cases {
		if got := impl.OwnSteps(c.n, c.rule, c.base); !slices.Equal(got, c.want) {
			t.Fatalf("OwnSteps(%d, %d, %d) = %v, not %v", c.n, c.rule, c.base, got, c.want)
		}
	}
}

func TestP19OwnNumbersFollowThemselves(t *testing.T) {
	eachOwnRule(func(rule int, base int) {
		for n := 0; n <= 2000; n++ {
			steps := impl.OwnSteps(n, rule, base)
			if !slices.Equal(steps, knownSteps(n, rule, base)) {
				t.Fatal(n, rule, base, steps)
			}
			if steps[0] != n || len(steps) > 60 {
				t.Fatal(n, rule, base, steps)
			}
			for place, number := range steps[1:] {
				if number > 2000 || impl.OwnSum(steps[place], rule, base) != number || slices.Contains(steps[:place+1], number) {
					t.Fatal(n, rule, base, steps)
				}
			}
			alone := impl.OwnOk(n, rule, base) || impl.OwnSum(n, rule, base) > 2000
			if (len(steps) == 1) != alone {
				t.Fatal(n, rule, base, steps, alone)
			}
		}
	})
}

func TestP19NoStepsOfOthers(t *testing.T) {
	eachNotTold(func(n int, rule int, base int) {
		if got := impl.OwnSteps(n, rule, base); len(got) != 0 {
			t.Fatalf("OwnSteps(%d, %d, %d) = %v, not nil", n, rule, base, got)
		}
	})
}

func TestP19StepsAreNewMemory(t *testing.T) {
	eachOwnRule(func(rule int, base int) {
		for _, n := range []int{0, 1, 3, 12, 348, 2000} {
			mustBeAlone(t, func() []int { return impl.OwnSteps(n, rule, base) })
		}
	})
}
