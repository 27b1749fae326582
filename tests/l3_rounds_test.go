package tests

import (
	"math"
	"slices"
	"testing"

	"loop.example/returningdigits/impl"
)

// badTimes are no numbers of times: just outside of both bounds, and far from them.
var badTimes = []int{math.MinInt, -5, -1, 0, 6, 7, 100, math.MaxInt}

// eachRule calls for each base and each number of times there is.
func eachRule(f func(times int, base int)) {
	eachBase(func(base int) {
		for times := 1; times <= 5; times++ {
			f(times, base)
		}
	})
}

// knownNext is what comes next of a number, by the digits that the standard library writes.
func knownNext(n int, times int, base int) int {
	sum := 0
	for _, digit := range knownDigits(n, base) {
		power := 1
		for range times {
			power *= digit
		}
		sum += power
	}
	return sum
}

// knownRound is the round into which a number leads, with all numbers on the way kept.
func knownRound(n int, times int, base int) []int {
	places := map[int]int{}
	var way []int
	for {
		if place, ok := places[n]; ok {
			return way[place:]
		}
		places[n] = len(way)
		way = append(way, n)
		n = knownNext(n, times, base)
	}
}

// fewerWholes are 0 to 120, and some greater numbers, for what takes long.
func fewerWholes(base int) []int {
	var list []int
	for place, n := range someWholes(base) {
		if n <= 120 || place%6 == 0 || n == impl.MaxWhole {
			list = append(list, n)
		}
	}
	return list
}

func TestTimesBound(t *testing.T) {
	if impl.MaxTimes != 5 {
		t.Fatal(impl.MaxTimes)
	}
}

// Promise 11.

func TestP11KnownNext(t *testing.T) {
	cases := []struct{ n, times, base, want int }{
		{0, 1, 10, 0}, {0, 2, 10, 0}, {0, 5, 16, 0}, {0, 5, 2, 0},
		{1, 1, 2, 1}, {1, 5, 2, 1}, {1, 5, 16, 1}, {2, 2, 2, 1}, {3, 2, 2, 2}, {7, 5, 2, 3}, {1023, 4, 2, 10},
		{23, 1, 10, 5}, {23, 2, 10, 13}, {23, 3, 10, 35}, {23, 4, 10, 97}, {23, 5, 10, 275},
		{9, 1, 10, 9}, {9, 2, 10, 81}, {9, 5, 10, 59049}, {10, 5, 10, 1}, {371, 3, 10, 371},
		{153, 2, 10, 35}, {153, 3, 10, 153}, {1634, 4, 10, 1634}, {4150, 5, 10, 4150},
		{999999999, 5, 10, 531441}, {1000000000, 1, 10, 1}, {1000000000, 5, 10, 1},
		{15, 5, 16, 759375}, {255, 2, 16, 450}, {268435455, 5, 16, 5315625},
		{1000000000, 1, 2, 13}, {1000000000, 5, 2, 13}, {1000000000, 2, 16, 9 + 121 + 81 + 100 + 144 + 100},
	}
	for _, c := range cases {
		if got := impl.NextOf(c.n, c.times, c.base); got != c.want {
			t.Fatalf("NextOf(%d, %d, %d) = %d, not %d", c.n, c.times, c.base, got, c.want)
		}
	}
}

func TestP11OrderOfDigitsIsNotAsked(t *testing.T) {
	eachRule(func(times int, base int) {
		for _, n := range someWholes(base) {
			next := impl.NextOf(n, times, base)
			if next != knownNext(n, times, base) {
				t.Fatal(n, times, base, next)
			}
			if n*base <= impl.MaxWhole && impl.NextOf(n*base, times, base) != next {
				t.Fatal("a 0 behind", n, times, base, next)
			}
			if times == 1 && next != impl.SumOf(n, base) {
				t.Fatal("one time", n, base, next, impl.SumOf(n, base))
			}
			if twice, ok := impl.BehindOf(n, n, base); ok && impl.NextOf(twice, times, base) != 2*next {
				t.Fatal("twice", n, times, base, next)
			}
		}
	})
}

func TestP11OneBehindAnother(t *testing.T) {
	eachRule(func(times int, base int) {
		for _, n := range []int{0, 1, base - 1, base, 305, 1000} {
			for _, m := range []int{0, 1, base - 1, base, base + 1, 407, 12345} {
				want := impl.NextOf(n, times, base) + impl.NextOf(m, times, base)
				if both, ok := impl.BehindOf(n, m, base); ok && impl.NextOf(both, times, base) != want {
					t.Fatal(n, m, times, base, both, want)
				}
			}
		}
	})
}

func TestP11NoNextOfOthers(t *testing.T) {
	for times := 1; times <= 5; times++ {
		mustRefuse(t, "NextOf", func(n int, base int) int { return impl.NextOf(n, times, base) })
	}
	for _, times := range badTimes {
		eachBase(func(base int) {
			for _, n := range []int{-1, 0, 1, 5, 12, 1000000000, 1000000001} {
				if got := impl.NextOf(n, times, base); got != -1 {
					t.Fatalf("NextOf(%d, %d, %d) = %d, not -1", n, times, base, got)
				}
			}
		})
	}
}

// Promise 12.

func TestP12KnownRounds(t *testing.T) {
	cases := []struct {
		n, times, base int
		want           []int
	}{
		{0, 2, 10, []int{0}}, {0, 1, 2, []int{0}}, {0, 5, 16, []int{0}},
		{1, 2, 10, []int{1}}, {1, 5, 2, []int{1}}, {2, 1, 2, []int{1}}, {1000000000, 5, 2, []int{1}},
		{9, 1, 10, []int{9}}, {18, 1, 10, []int{9}}, {987654, 1, 10, []int{3}},
		{7, 2, 10, []int{1}}, {1000000000, 2, 10, []int{1}},
		{4, 2, 10, []int{4, 16, 37, 58, 89, 145, 42, 20}},
		{16, 2, 10, []int{16, 37, 58, 89, 145, 42, 20, 4}},
		{20, 2, 10, []int{20, 4, 16, 37, 58, 89, 145, 42}},
		{153, 2, 10, []int{89, 145, 42, 20, 4, 16, 37, 58}},
		{2, 2, 10, []int{4, 16, 37, 58, 89, 145, 42, 20}},
		{153, 3, 10, []int{153}}, {371, 3, 10, []int{371}}, {3, 3, 10, []int{153}},
		{136, 3, 10, []int{136, 244}}, {244, 3, 10, []int{244, 136}},
		{4, 3, 10, []int{133, 55, 250}}, {1634, 4, 10, []int{1634}}, {2178, 4, 10, []int{2178, 6514}},
		{2, 2, 3, []int{2, 4}}, {5, 2, 3, []int{5}}, {8, 2, 3, []int{8}}, {3, 2, 3, []int{1}},
	}
	for _, c := range cases {
		if got := impl.RoundFrom(c.n, c.times, c.base); !slices.Equal(got, c.want) {
			t.Fatalf("RoundFrom(%d, %d, %d) = %v, not %v", c.n, c.times, c.base, got, c.want)
		}
	}
}

func TestP12EachNumberLeadsIntoARound(t *testing.T) {
	eachRule(func(times int, base int) {
		stay := impl.GreatestStay(times, base)
		for _, n := range fewerWholes(base) {
			round := impl.RoundFrom(n, times, base)
			if !slices.Equal(round, knownRound(n, times, base)) {
				t.Fatal(n, times, base, round)
			}
			for place, number := range round {
				if impl.NextOf(number, times, base) != round[(place+1)%len(round)] || number > stay {
					t.Fatal(n, times, base, round, stay)
				}
			}
			sorted := slices.Sorted(slices.Values(round))
			if len(slices.Compact(slices.Clone(sorted))) != len(round) {
				t.Fatal("two are equal", n, times, base, round)
			}
			next := impl.RoundFrom(impl.NextOf(n, times, base), times, base)
			if !slices.Equal(slices.Sorted(slices.Values(next)), sorted) {
				t.Fatal("what comes next leads elsewhere", n, times, base, round, next)
			}
		}
	})
}

func TestP12RoundsFromEachOfTheirNumbers(t *testing.T) {
	eachRule(func(times int, base int) {
		round := impl.RoundFrom(base+2, times, base)
		for place, number := range round {
			want := slices.Concat(round[place:], round[:place])
			if got := impl.RoundFrom(number, times, base); !slices.Equal(got, want) {
				t.Fatal(number, times, base, got, want)
			}
		}
	})
}

func TestP12NoRoundOfOthers(t *testing.T) {
	refuse := func(n int, times int, base int) {
		if got := impl.RoundFrom(n, times, base); len(got) != 0 {
			t.Fatalf("RoundFrom(%d, %d, %d) = %v, not nil", n, times, base, got)
		}
	}
	eachRule(func(times int, base int) {
		for _, n := range badWholes {
			refuse(n, times, base)
		}
	})
	for _, n := range []int{-1, 0, 1, 5, 12, 1000000000, 1000000001} {
		for _, base := range badBases {
			for times := 0; times <= 6; times++ {
				refuse(n, times, base)
			}
		}
		for _, times := range badTimes {
			eachBase(func(base int) { refuse(n, times, base) })
		}
	}
}

func TestP12RoundsAreNewMemory(t *testing.T) {
	eachRule(func(times int, base int) {
		for _, n := range []int{0, 1, base + 2, 12345, 1000000000} {
			mustBeAlone(t, func() []int { return impl.RoundFrom(n, times, base) })
		}
	})
}

// Promise 13.

func TestP13KnownHappyNumbers(t *testing.T) {
	var happy []int
	for n := 0; n <= 103; n++ {
		if impl.HappyOk(n, 10) {
			happy = append(happy, n)
		}
	}
	want := []int{1, 7, 10, 13, 19, 23, 28, 31, 32, 44, 49, 68, 70, 79, 82, 86, 91, 94, 97, 100, 103}
	if !slices.Equal(happy, want) {
		t.Fatal(happy)
	}
	if !impl.HappyOk(1000000000, 10) || impl.HappyOk(999999999, 10) {
		t.Fatal("great numbers")
	}
}

func TestP13HappyNumbersLeadToOne(t *testing.T) {
	eachBase(func(base int) {
		for _, n := range someWholes(base) {
			want := knownRound(n, 2, base)[0] == 1
			if got := impl.HappyOk(n, base); got != want {
				t.Fatal(n, base, got)
			}
		}
		if impl.HappyOk(0, base) || !impl.HappyOk(1, base) || !impl.HappyOk(base, base) {
			t.Fatal(base)
		}
	})
}

func TestP13HappyNumbersStayHappy(t *testing.T) {
	eachBase(func(base int) {
		for _, n := range someWholes(base) {
			happy := impl.HappyOk(n, base)
			if n >= 1 && impl.HappyOk(impl.NextOf(n, 2, base), base) != happy {
				t.Fatal("next", n, base, happy)
			}
			if n*base <= impl.MaxWhole && impl.HappyOk(n*base, base) != happy {
				t.Fatal("a 0 behind", n, base, happy)
			}
		}
	})
}

func TestP13AllAreHappyInTwoAndFour(t *testing.T) {
	for _, base := range []int{2, 4} {
		for _, n := range someWholes(base) {
			if impl.HappyOk(n, base) != (n >= 1) {
				t.Fatal(n, base)
			}
		}
	}
}

func TestP13OthersAreNotHappy(t *testing.T) {
	eachBase(func(base int) {
		for _, n := range append([]int{0}, badWholes...) {
			if impl.HappyOk(n, base) {
				t.Fatal(n, base)
			}
		}
	})
	for _, base := range badBases {
		for _, n := range []int{-1, 0, 1, 7, 10, 1000000000, 1000000001} {
			if impl.HappyOk(n, base) {
				t.Fatal(n, base)
			}
		}
	}
}

// Promise 14.

func TestP14KnownStays(t *testing.T) {
	cases := []struct{ times, base, want int }{
		{1, 2, 3}, {2, 2, 3}, {3, 2, 3}, {4, 2, 3}, {5, 2, 3}, // 1 leads to 1, and 3 to 2
		{1, 3, 8}, {2, 3, 26}, {3, 3, 26}, {4, 3, 80}, {5, 3, 242},
		{1, 10, 99}, {2, 10, 999}, {3, 10, 9999}, {4, 10, 99999}, {5, 10, 999999},
		{1, 16, 255}, {2, 16, 4095}, {3, 16, 65535}, {4, 16, 1048575}, {5, 16, 16777215},
	}
	for _, c := range cases {
		if got := impl.GreatestStay(c.times, c.base); got != c.want {
			t.Fatalf("GreatestStay(%d, %d) = %d, not %d", c.times, c.base, got, c.want)
		}
	}
}

func TestP14FewestDigitsAreTaken(t *testing.T) {
	eachRule(func(times int, base int) {
		want := 0
		for power := base; want == 0; power *= base {
			if power-1 > knownNext(power-1, times, base) {
				want = power - 1
			}
		}
		if got := impl.GreatestStay(times, base); got != want {
			t.Fatal(times, base, got, want)
		}
	})
}

func TestP14GreatNumbersBecomeSmaller(t *testing.T) {
	eachRule(func(times int, base int) {
		stay := impl.GreatestStay(times, base)
		for n := stay; n <= stay+50 && n <= impl.MaxWhole; n++ {
			if next := impl.NextOf(n, times, base); next < 0 || next >= n {
				t.Fatal(n, times, base, next)
			}
		}
		for _, n := range someWholes(base) {
			if n > stay && impl.NextOf(n, times, base) >= n {
				t.Fatal(n, times, base, stay)
			}
		}
	})
}

func TestP14NoStayOfOthers(t *testing.T) {
	refuse := func(times int, base int) {
		if got := impl.GreatestStay(times, base); got != -1 {
			t.Fatalf("GreatestStay(%d, %d) = %d, not -1", times, base, got)
		}
	}
	for _, times := range badTimes {
		eachBase(func(base int) { refuse(times, base) })
	}
	for _, base := range badBases {
		for times := -1; times <= 7; times++ {
			refuse(times, base)
		}
	}
}

// Promise 15.

func TestP15KnownRounds(t *testing.T) {
	cases := []struct {
		most, times, base int
		want              []int
	}{
		{1, 2, 10, []int{1}}, {1, 1, 2, []int{1}}, {1, 5, 16, []int{1}}, {500, 5, 2, []int{1}},
		{2, 2, 10, []int{1, 4}}, {50, 2, 10, []int{1, 4}}, {500, 2, 10, []int{1, 4}},
		{5, 1, 10, []int{1, 2, 3, 4, 5}}, {500, 1, 10, []int{1, 2, 3, 4, 5, 6, 7, 8, 9}},
		{2, 3, 10, []int{1, 371}}, {3, 3, 10, []int{1, 153, 371}}, {4, 3, 10, []int{1, 55, 153, 371}},
		{500, 3, 10, []int{1, 55, 136, 153, 160, 370, 371, 407, 919}},
		{500, 4, 10, []int{1, 1138, 2178, 8208}},
		{2, 2, 3, []int{1, 2}}, {500, 2, 3, []int{1, 2, 5, 8}},
		{500, 2, 4, []int{1}},
	}
	for _, c := range cases {
		if got := impl.RoundsUpTo(c.most, c.times, c.base); !slices.Equal(got, c.want) {
			t.Fatalf("RoundsUpTo(%d, %d, %d) = %v, not %v", c.most, c.times, c.base, got, c.want)
		}
	}
}

func TestP15MoreNumbersHaveNoFewerRounds(t *testing.T) {
	eachRule(func(times int, base int) {
		least := map[int]bool{}
		for most := 1; most <= 500; most++ {
			least[slices.Min(knownRound(most, times, base))] = true
			if most > 40 && most%70 != 0 && most < 499 {
				continue
			}
			var want []int
			for number := range least {
				want = append(want, number)
			}
			slices.Sort(want)
			got := impl.RoundsUpTo(most, times, base)
			if !slices.Equal(got, want) {
				t.Fatal(most, times, base, got, want)
			}
			for _, number := range got {
				round := impl.RoundFrom(number, times, base)
				if round[0] != number || slices.Min(round) != number {
					t.Fatal(most, times, base, number, round)
				}
			}
			if most == 500 {
				continue
			}
			more := impl.RoundsUpTo(most+1, times, base)
			for _, number := range got {
				if !slices.Contains(more, number) {
					t.Fatal("a round is gone", most, times, base, number, more)
				}
			}
		}
	})
}

func TestP15NoRoundsOfOthers(t *testing.T) {
	refuse := func(most int, times int, base int) {
		if got := impl.RoundsUpTo(most, times, base); len(got) != 0 {
			t.Fatalf("RoundsUpTo(%d, %d, %d) = %v, not nil", most, times, base, got)
		}
	}
	eachRule(func(times int, base int) {
		for _, most := range []int{math.MinInt, -500, -1, 0, 501, 502, 1000, 1000000000, 1000000001, math.MaxInt} {
			refuse(most, times, base)
		}
	})
	for _, most := range []int{-1, 0, 1, 50, 500, 501} {
		for _, times := range badTimes {
			eachBase(func(base int) { refuse(most, times, base) })
		}
		for _, base := range badBases {
			for times := 0; times <= 6; times++ {
				refuse(most, times, base)
			}
		}
	}
}

func TestP15RoundsUpToAreNewMemory(t *testing.T) {
	eachRule(func(times int, base int) {
		for _, most := range []int{1, 2, 50} {
			mustBeAlone(t, func() []int { return impl.RoundsUpTo(most, times, base) })
		}
	})
}
