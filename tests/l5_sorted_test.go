package tests

import (
	"math"
	"slices"
	"strconv"
	"strings"
	"testing"

	"loop.example/returningdigits/impl"
)

// badWidths are no widths: just outside of both bounds, and far from them.
var badWidths = []int{math.MinInt, -6, -2, -1, 0, 1, 7, 8, 10, 100, math.MaxInt}

// eachWidth calls for each base and each width there is.
func eachWidth(f func(wide int, base int)) {
	eachBase(func(base int) {
		for wide := 2; wide <= 6; wide++ {
			f(wide, base)
		}
	})
}

// beyond is the least number with one digit more than the width.
func beyond(wide int, base int) int {
	power := 1
	for range wide {
		power *= base
	}
	return power
}

// ofWidth are numbers of at most so many digits: all of them if there are few; else the least and the greatest ones, those with all digits alike and the ones beside them, and some between.
func ofWidth(wide int, base int) []int {
	top := beyond(wide, base)
	var list []int
	for n := 0; n < top; n++ {
		if top > 1000 && n >= 150 && n < top-40 {
			n += top/300 + n%7
		}
		list = append(list, n)
	}
	for digit := range base {
		n := digit * (top - 1) / (base - 1)
		list = append(list, n-1, n, n+1)
	}
	for power := base; power < top; power *= base {
		list = append(list, power-1, power, power+1)
	}
	list = slices.DeleteFunc(list, func(n int) bool { return n < 0 || n >= top })
	slices.Sort(list)
	return slices.Compact(list)
}

// eachNoWidth calls for numbers, widths and bases of which at least one is none, or whose number has more digits than the width.
func eachNoWidth(f func(n int, wide int, base int)) {
	eachWidth(func(wide int, base int) {
		top := beyond(wide, base)
		for _, n := range append([]int{top, top + 1, top*base - 1, top * base, 2*top + 5, 1000000000}, badWholes...) {
			f(n, wide, base)
		}
	})
	for _, n := range []int{-1, 0, 1, 3, 9, 11, 99, 495, 6174, 777777, 1000000000, 1000000001} {
		for _, wide := range badWidths {
			for base := 0; base <= 18; base++ {
				f(n, wide, base)
			}
		}
		for _, base := range badBases {
			for wide := 1; wide <= 7; wide++ {
				f(n, wide, base)
			}
		}
	}
}

// knownOrdered are the digits that the standard library writes, with noughts ahead, from the least one up, as a text.
func knownOrdered(n int, wide int, base int) string {
	text := strconv.FormatInt(int64(n), base)
	letters := strings.Split(strings.Repeat("0", wide-len(text))+text, "")
	slices.Sort(letters)
	return strings.Join(letters, "")
}

// knownUp is the number of the digits from the least one up.
func knownUp(n int, wide int, base int) int {
	up, _ := strconv.ParseInt(knownOrdered(n, wide, base), base, 64)
	return int(up)
}

// knownDown is the number of the digits from the greatest one down.
func knownDown(n int, wide int, base int) int {
	letters := strings.Split(knownOrdered(n, wide, base), "")
	slices.Reverse(letters)
	down, _ := strconv.ParseInt(strings.Join(letters, ""), base, 64)
	return int(down)
}

// knownAlike reports whether the first digit and the last one in order are the same.
func knownAlike(n int, wide int, base int) bool {
	text := knownOrdered(n, wide, base)
	return text[0] == text[wide-1]
}

// knownLeftRound is the round into which a number leads, and the steps to it, with the places on the way kept in a map.
func knownLeftRound(n int, wide int, base int) ([]int, int) {
	places := map[int]int{}
	var way []int
	for {
		if place, ok := places[n]; ok {
			return way[place:], place
		}
		places[n] = len(way)
		way = append(way, n)
		n = knownDown(n, wide, base) - knownUp(n, wide, base)
	}
}

func TestWidthBound(t *testing.T) {
	if impl.MaxWide != 6 {
		t.Fatal(impl.MaxWide)
	}
}

// Promise 20.

func TestP20KnownWidths(t *testing.T) {
	cases := []struct {
		n, wide, base int
		want          bool
	}{
		{0, 2, 2, true}, {3, 2, 2, true}, {4, 2, 2, false}, {63, 6, 2, true}, {64, 6, 2, false}, {4, 3, 2, true},
		{99, 2, 10, true}, {100, 2, 10, false}, {100, 3, 10, true}, {999999, 6, 10, true}, {1000000, 6, 10, false}, {1000000000, 6, 10, false},
		{255, 2, 16, true}, {256, 2, 16, false}, {16777215, 6, 16, true}, {16777216, 6, 16, false}, {0, 6, 16, true},
		{1, 1, 10, false}, {0, 1, 10, false}, {0, 0, 10, false}, {0, 7, 10, false}, {5, 7, 10, false}, {-1, 3, 10, false},
		{1, 2, 1, false}, {1, 2, 17, false}, {1, 2, 0, false}, {1000000001, 6, 10, false},
	}
	for _, c := range cases {
		if got := impl.WideOk(c.n, c.wide, c.base); got != c.want {
			t.Fatalf("WideOk(%d, %d, %d) = %v", c.n, c.wide, c.base, got)
		}
	}
}

func TestP20NoughtsMayBeAhead(t *testing.T) {
	eachWidth(func(wide int, base int) {
		if !impl.WideOk(0, wide, base) {
			t.Fatal(wide, base)
		}
		top := beyond(wide, base)
		for _, n := range append(someWholes(base), top-2, top-1, top, top+1) {
			got := impl.WideOk(n, wide, base)
			if got != (len(knownDigits(n, base)) <= wide) || got != (impl.LongOf(n, base) <= wide) {
				t.Fatal(n, wide, base, got)
			}
			if got && wide < 6 && !impl.WideOk(n, wide+1, base) {
				t.Fatal("one digit more", n, wide, base)
			}
		}
	})
}

func TestP20OthersAreNotWide(t *testing.T) {
	eachNoWidth(func(n int, wide int, base int) {
		if impl.WideOk(n, wide, base) {
			t.Fatal(n, wide, base)
		}
	})
}

// Promise 21.

func TestP21KnownDowns(t *testing.T) {
	cases := []struct{ n, wide, base, want int }{
		{1205, 4, 10, 5210}, {1205, 5, 10, 52100}, {1205, 6, 10, 521000}, {7, 3, 10, 700}, {7, 2, 10, 70}, {0, 2, 10, 0}, {0, 6, 16, 0},
		{10, 2, 10, 10}, {1, 2, 10, 10}, {99, 2, 10, 99}, {998, 3, 10, 998}, {899, 3, 10, 998}, {123456, 6, 10, 654321}, {999999, 6, 10, 999999},
		{1, 2, 2, 2}, {2, 2, 2, 2}, {3, 2, 2, 3}, {21, 6, 2, 56}, {21, 5, 2, 28}, {63, 6, 2, 63},
		{0xabc, 3, 16, 0xcba}, {0xabc, 6, 16, 0xcba000}, {0xf, 2, 16, 0xf0}, {16777215, 6, 16, 16777215}, {0xfffffe, 6, 16, 0xfffffe},
	}
	for _, c := range cases {
		if got := impl.DownOf(c.n, c.wide, c.base); got != c.want {
			t.Fatalf("DownOf(%d, %d, %d) = %d, not %d", c.n, c.wide, c.base, got, c.want)
		}
	}
}

func TestP21PutInOrderTheSumIsTheSame(t *testing.T) {
	eachWidth(func(wide int, base int) {
		for _, n := range ofWidth(wide, base) {
			down := impl.DownOf(n, wide, base)
			if down != knownDown(n, wide, base) || down < n || impl.SumOf(down, base) != impl.SumOf(n, base) {
				t.Fatal(n, wide, base, down)
			}
			if impl.DownOf(down, wide, base) != down || impl.UpOf(down, wide, base) != impl.UpOf(n, wide, base) {
				t.Fatal("in order again", n, wide, base, down)
			}
		}
	})
}

func TestP21NoDownOfOthers(t *testing.T) {
	eachNoWidth(func(n int, wide int, base int) {
		if got := impl.DownOf(n, wide, base); got != -1 {
			t.Fatalf("DownOf(%d, %d, %d) = %d, not -1", n, wide, base, got)
		}
	})
}

// Promise 22.

func TestP22KnownUps(t *testing.T) {
	cases := []struct{ n, wide, base, want int }{
		{1205, 4, 10, 125}, {1205, 6, 10, 125}, {7, 3, 10, 7}, {700, 3, 10, 7}, {0, 2, 10, 0}, {0, 6, 16, 0},
		{10, 2, 10, 1}, {99, 2, 10, 99}, {998, 3, 10, 899}, {998, 4, 10, 899}, {654321, 6, 10, 123456}, {999999, 6, 10, 999999},
		{2, 2, 2, 1}, {3, 2, 2, 3}, {21, 6, 2, 7}, {63, 6, 2, 63},
		{0xcba, 3, 16, 0xabc}, {0xc0ba, 5, 16, 0xabc}, {16777215, 6, 16, 16777215}, {0xfffffe, 6, 16, 0xefffff},
	}
	for _, c := range cases {
		if got := impl.UpOf(c.n, c.wide, c.base); got != c.want {
			t.Fatalf("UpOf(%d, %d, %d) = %d, not %d", c.n, c.wide, c.base, got, c.want)
		}
	}
}

func TestP22UpIsAtMostTheNumber(t *testing.T) {
	eachWidth(func(wide int, base int) {
		for _, n := range ofWidth(wide, base) {
			up := impl.UpOf(n, wide, base)
			if up != knownUp(n, wide, base) || up > n || impl.SumOf(up, base) != impl.SumOf(n, base) {
				t.Fatal(n, wide, base, up)
			}
			if impl.UpOf(up, wide, base) != up || impl.DownOf(up, wide, base) != impl.DownOf(n, wide, base) {
				t.Fatal("in order again", n, wide, base, up)
			}
		}
	})
}

func TestP22NoUpOfOthers(t *testing.T) {
	eachNoWidth(func(n int, wide int, base int) {
		if got := impl.UpOf(n, wide, base); got != -1 {
			t.Fatalf("UpOf(%d, %d, %d) = %d, not -1", n, wide, base, got)
		}
	})
}

// Promise 23.

func TestP23KnownLefts(t *testing.T) {
	cases := []struct{ n, wide, base, want int }{
		{1205, 4, 10, 5085}, {1205, 6, 10, 520875}, {7, 3, 10, 693}, {100, 3, 10, 99}, {495, 3, 10, 495}, {6174, 4, 10, 6174},
		{0, 2, 10, 0}, {0, 6, 16, 0}, {77, 2, 10, 0}, {77, 3, 10, 693}, {7777, 4, 10, 0}, {9, 2, 10, 81}, {10, 2, 10, 9}, {999998, 6, 10, 99999},
		{1, 2, 2, 1}, {2, 2, 2, 1}, {3, 2, 2, 0}, {21, 6, 2, 49}, {21, 5, 2, 21}, {63, 6, 2, 0}, {1, 6, 2, 31},
		{0xabc, 3, 16, 510}, {16777215, 6, 16, 0}, {16777214, 6, 16, 1048575},
	}
	for _, c := range cases {
		if got := impl.LeftOf(c.n, c.wide, c.base); got != c.want {
			t.Fatalf("LeftOf(%d, %d, %d) = %d, not %d", c.n, c.wide, c.base, got, c.want)
		}
	}
}

func TestP23WhatIsLeftIsAMultiple(t *testing.T) {
	eachWidth(func(wide int, base int) {
		for _, n := range ofWidth(wide, base) {
			left := impl.LeftOf(n, wide, base)
			if left != knownDown(n, wide, base)-knownUp(n, wide, base) || left != impl.DownOf(n, wide, base)-impl.UpOf(n, wide, base) {
				t.Fatal(n, wide, base, left)
			}
			if left%(base-1) != 0 || !impl.WideOk(left, wide, base) {
				t.Fatal("no multiple, or too many digits", n, wide, base, left)
			}
			if (left == 0) != knownAlike(n, wide, base) || (left == 0) != impl.AlikeOk(n, wide, base) {
				t.Fatal("alike", n, wide, base, left)
			}
		}
	})
}

func TestP23NothingLeftOfOthers(t *testing.T) {
	eachNoWidth(func(n int, wide int, base int) {
		if got := impl.LeftOf(n, wide, base); got != -1 {
			t.Fatalf("LeftOf(%d, %d, %d) = %d, not -1", n, wide, base, got)
		}
	})
}

// Promise 24.

func TestP24KnownRounds(t *testing.T) {
	greatest := []int{13180260, 13118580, 11013750, 14945970, 15493170}
	cases := []struct {
		n, wide, base int
		want          []int
		steps         int
	}{
		{100, 3, 10, []int{495}, 6}, {1, 3, 10, []int{495}, 6}, {7, 3, 10, []int{495}, 3}, {495, 3, 10, []int{495}, 0}, {954, 3, 10, []int{495}, 1},
		{3524, 4, 10, []int{6174}, 3}, {14, 4, 10, []int{6174}, 7}, {1205, 4, 10, []int{6174}, 7}, {6174, 4, 10, []int{6174}, 0}, {7641, 4, 10, []int{6174}, 1},
		{0, 3, 10, []int{0}, 0}, {777, 3, 10, []int{0}, 1}, {7777, 4, 10, []int{0}, 1}, {0, 2, 2, []int{0}, 0}, {3, 2, 2, []int{0}, 1}, {16777215, 6, 16, []int{0}, 1},
		{9, 2, 10, []int{9, 81, 63, 27, 45}, 0}, {45, 2, 10, []int{45, 9, 81, 63, 27}, 0}, {98, 2, 10, []int{9, 81, 63, 27, 45}, 1},
		{1, 2, 2, []int{1}, 0}, {2, 2, 2, []int{1}, 1}, {21, 6, 2, []int{49}, 1}, {21, 5, 2, []int{21}, 0},
		{1, 5, 10, []int{74943, 62964, 71973, 83952}, 6}, {5, 5, 10, []int{53955, 59994}, 2}, {631764, 6, 10, []int{631764}, 0}, {549945, 6, 10, []int{549945}, 0},
		{1, 6, 10, []int{851742, 750843, 840852, 860832, 862632, 642654, 420876}, 11}, {1205, 6, 10, []int{420876, 851742, 750843, 840852, 860832, 862632, 642654}, 4},
		{12, 4, 6, []int{430, 890, 920, 675, 860, 705}, 1}, {1, 2, 16, []int{15, 225, 195, 135}, 1}, {0xabc, 3, 16, []int{2040}, 8},
		{3, 6, 16, greatest, 31},
		{45, 6, 14, []int{5611190, 6686836, 6840444, 6855732, 5647044, 5119413, 3383094, 6650982, 6269315, 5121961, 2806869, 6732882}, 29},
	}
	for _, c := range cases {
		got, steps, ok := impl.LeftRound(c.n, c.wide, c.base)
		if !slices.Equal(got, c.want) || steps != c.steps || !ok {
			t.Fatalf("LeftRound(%d, %d, %d) = %v %d %v, not %v %d", c.n, c.wide, c.base, got, steps, ok, c.want, c.steps)
		}
	}
}

func TestP24EachNextIsLeftOfTheOneBefore(t *testing.T) {
	eachWidth(func(wide int, base int) {
		for _, n := range ofWidth(wide, base) {
			round, steps, ok := impl.LeftRound(n, wide, base)
			want, wantSteps := knownLeftRound(n, wide, base)
			if !ok || !slices.Equal(round, want) || steps != wantSteps {
				t.Fatal(n, wide, base, round, steps, ok, want, wantSteps)
			}
			for place, number := range round {
				if impl.LeftOf(number, wide, base) != round[(place+1)%len(round)] {
					t.Fatal(n, wide, base, round)
				}
			}
			first := n
			for range steps {
				if slices.Contains(round, first) {
					t.Fatal("the round comes sooner", n, wide, base, round, steps)
				}
				first = impl.LeftOf(first, wide, base)
			}
			if first != round[0] {
				t.Fatal("the round begins elsewhere", n, wide, base, round, steps)
			}
		}
	})
}

func TestP24InTheBaseTenThreeAndFourDigits(t *testing.T) {
	for _, c := range []struct{ wide, number, most int }{{3, 495, 6}, {4, 6174, 7}} {
		seen := 0
		for n := range beyond(c.wide, 10) {
			round, steps, ok := impl.LeftRound(n, c.wide, 10)
			if impl.AlikeOk(n, c.wide, 10) {
				if !ok || !slices.Equal(round, []int{0}) || steps > 1 {
					t.Fatal("alike", n, c.wide, round, steps, ok)
				}
				continue
			}
			if !ok || !slices.Equal(round, []int{c.number}) || steps > c.most {
				t.Fatal(n, c.wide, round, steps, ok)
			}
			seen = max(seen, steps)
		}
		if seen != c.most {
			t.Fatal("most steps", c.wide, seen)
		}
	}
}

func TestP24NoRoundOfOthers(t *testing.T) {
	eachNoWidth(func(n int, wide int, base int) {
		if got, steps, ok := impl.LeftRound(n, wide, base); len(got) != 0 || steps != -1 || ok {
			t.Fatalf("LeftRound(%d, %d, %d) = %v %d %v, not nil -1 false", n, wide, base, got, steps, ok)
		}
	})
}

func TestP24RoundsAreNewMemory(t *testing.T) {
	eachWidth(func(wide int, base int) {
		for _, n := range []int{0, 1, base, beyond(wide, base) - 1, beyond(wide, base) - 2} {
			mustBeAlone(t, func() []int {
				round, _, _ := impl.LeftRound(n, wide, base)
				return round
			})
		}
	})
}

// Promise 25.

func TestP25KnownAlike(t *testing.T) {
	cases := []struct {
		n, wide, base int
		want          bool
	}{
		{777, 3, 10, true}, {77, 3, 10, false}, {77, 2, 10, true}, {777, 4, 10, false}, {778, 3, 10, false}, {877, 3, 10, false}, {787, 3, 10, false},
		{0, 2, 2, true}, {0, 6, 16, true}, {0, 3, 10, true}, {7, 2, 10, false}, {70, 2, 10, false}, {11, 2, 10, true}, {1, 2, 10, false},
		{3, 2, 2, true}, {1, 2, 2, false}, {2, 2, 2, false}, {63, 6, 2, true}, {62, 6, 2, false}, {31, 6, 2, false}, {31, 5, 2, true},
		{16777215, 6, 16, true}, {0xaaaaaa, 6, 16, true}, {0xaaaaa, 6, 16, false}, {0x999, 3, 16, true}, {999999, 6, 10, true}, {99999, 6, 10, false},
	}
	for _, c := range cases {
		if got := impl.AlikeOk(c.n, c.wide, c.base); got != c.want {
			t.Fatalf("AlikeOk(%d, %d, %d) = %v", c.n, c.wide, c.base, got)
		}
	}
}

func TestP25DigitsAllAlikeAreMultiplesOfOnes(t *testing.T) {
	eachWidth(func(wide int, base int) {
		top := beyond(wide, base)
		ones := (top - 1) / (base - 1)
		alike := 0
		for _, n := range ofWidth(wide, base) {
			got := impl.AlikeOk(n, wide, base)
			if got != knownAlike(n, wide, base) || got != (n%ones == 0 && n/ones < base) {
				t.Fatal(n, wide, base, got)
			}
			if got {
				alike++
			}
		}
		// Those that are alike are all among these numbers.
		if alike != base || !impl.AlikeOk(0, wide, base) || !impl.AlikeOk(top-1, wide, base) {
			t.Fatal(wide, base, alike)
		}
	})
}

func TestP25AllNumbersOfAWidth(t *testing.T) {
	for _, c := range []struct{ wide, base int }{{2, 2}, {6, 2}, {6, 3}, {5, 6}, {4, 10}, {2, 16}, {3, 16}} {
		alike := 0
		for n := range beyond(c.wide, c.base) {
			if impl.AlikeOk(n, c.wide, c.base) {
				alike++
			}
		}
		if alike != c.base {
			t.Fatal(c.wide, c.base, alike)
		}
	}
}

func TestP25OthersAreNotAlike(t *testing.T) {
	eachNoWidth(func(n int, wide int, base int) {
		if impl.AlikeOk(n, wide, base) {
			t.Fatal(n, wide, base)
		}
	})
}
