package tests

import (
	"math"
	"slices"
	"testing"

	"loop.example/returningdigits/impl"
)

// badMost are numbers up to which no selves are told, and from which no row is: just outside of both bounds, and far from them.
var badMost = []int{math.MinInt, math.MinInt + 1, -1 << 32, -3000, -256, -10, -2, -1, 3001, 3002, 3003, 6000, 65536 + 10, 1000000000, 1000000001, 1 << 32, 1<<32 + 10, math.MaxInt - 1, math.MaxInt}

// knownTable is, for each number from 0 to 3300, what it makes, by the digits that the standard library writes.
func knownTable(base int) []int {
	var table []int
	for n := range 3301 {
		table = append(table, n+knownSum(n, base))
	}
	return table
}

// knownMakers are the makers of the numbers from 0 to 3300, found the other way round: by what each number makes.
func knownMakers(base int) [][]int {
	makers := make([][]int, 3301)
	for maker, made := range knownTable(base) {
		if made < len(makers) {
			makers[made] = append(makers[made], maker)
		}
	}
	return makers
}

// knownMakersNear are the makers of a number among the 200 numbers below it, and it; no sum of digits up to MaxWhole is as much as 121.
func knownMakersNear(n int, base int) []int {
	var makers []int
	for maker := max(0, n-200); maker <= n; maker++ {
		if maker+knownSum(maker, base) == n {
			makers = append(makers, maker)
		}
	}
	return makers
}

// knownRow is the row from a number on, by a table of what the numbers make.
func knownRow(n int, table []int) []int {
	var row []int
	for ; n <= 3000; n = table[n] {
		row = append(row, n)
	}
	return row
}

// makingWholes are numbers for all that makes and is made: someWholes, and those with the greatest digits alone, but for one or two digits ahead, which make what is farthest from them.
func makingWholes(base int) []int {
	list := someWholes(base)
	for power := 1; power <= impl.MaxWhole; power *= base {
		for ahead := 1; ahead <= 2*base; ahead++ {
			list = append(list, ahead*power-2, ahead*power-1)
		}
	}
	list = slices.DeleteFunc(list, func(n int) bool { return n < 0 || n > impl.MaxWhole })
	slices.Sort(list)
	return slices.Compact(list)
}

// eachBadMost calls for numbers out of 0..MaxMade in each base, and for numbers in bases that are none.
func eachBadMost(f func(n int, base int)) {
	eachBase(func(base int) {
		for _, n := range badMost {
			f(n, base)
		}
	})
	for _, base := range badBases {
		for _, n := range []int{-1, 0, 1, 2, 5, 12, 2999, 3000, 3001} {
			f(n, base)
		}
	}
}

// eachNoRow calls for numbers and bases of which no row is told: as eachBadMost, and for 0.
func eachNoRow(f func(n int, base int)) {
	eachBadMost(f)
	eachBase(func(base int) { f(0, base) })
}

// mustJoin fails unless the rows from two numbers, and from both exchanged, come together at a number.
func mustJoin(t *testing.T, n int, m int, base int, want int) {
	t.Helper()
	for range 2 {
		if got, ok := impl.JoinAt(n, m, base); got != want || !ok {
			t.Fatalf("JoinAt(%d, %d, %d) = %d %v, not %d", n, m, base, got, ok, want)
		}
		n, m = m, n
	}
}

// mustNotJoin fails unless the rows from two numbers, and from both exchanged, do not come together.
func mustNotJoin(t *testing.T, n int, m int, base int) {
	t.Helper()
	for range 2 {
		if got, ok := impl.JoinAt(n, m, base); got != -1 || ok {
			t.Fatalf("JoinAt(%d, %d, %d) = %d %v, not -1 false", n, m, base, got, ok)
		}
		n, m = m, n
	}
}

func TestMadeBound(t *testing.T) {
	if impl.MaxMade != 3000 {
		t.Fatal(impl.MaxMade)
	}
}

// Promise 53.

func TestP53KnownMade(t *testing.T) {
	cases := []struct{ n, base, want int }{
		{0, 2, 0}, {0, 10, 0}, {0, 15, 0}, {0, 16, 0}, {1, 2, 2}, {1, 3, 2}, {1, 10, 2}, {1, 16, 2},
		// Numbers of one digit, and those beside the base.
		{2, 3, 4}, {5, 10, 10}, {9, 10, 18}, {8, 9, 16}, {15, 16, 30}, {14, 15, 28}, {2, 2, 3}, {3, 2, 5}, {10, 10, 11}, {11, 10, 13}, {9, 9, 10}, {10, 9, 12}, {16, 16, 17}, {17, 16, 19}, {15, 15, 16},
		{13, 10, 17}, {91, 10, 101}, {99, 10, 117}, {100, 10, 101}, {153, 10, 162}, {2976, 10, 3000}, {2991, 2, 3000}, {3000, 10, 3003}, {7, 2, 10}, {255, 16, 285},
		{899999999, 10, 900000079}, {805306367, 16, 805306474}, {536870911, 2, 536870940},
		// What the greatest numbers make is more than MaxWhole.
		{999999932, 10, 1000000000}, {999999981, 2, 1000000000}, {1000000000, 2, 1000000013}, {999999999, 2, 1000000020}, {1000000000, 9, 1000000024}, {1000000000, 10, 1000000001}, {999999999, 10, 1000000080}, {1000000000, 15, 1000000062}, {1000000000, 16, 1000000055}, {999999999, 16, 1000000083},
	}
	for _, c := range cases {
		if got := impl.MadeBy(c.n, c.base); got != c.want {
			t.Fatalf("MadeBy(%d, %d) = %d, not %d", c.n, c.base, got, c.want)
		}
	}
}

func TestP53WhatIsMadeIsMore(t *testing.T) {
	eachBase(func(base int) {
		above := 0
		for _, n := range makingWholes(base) {
			got := impl.MadeBy(n, base)
			if got != n+knownSum(n, base) || got != n+impl.SumOf(n, base) || (got > n) != (n >= 1) {
				t.Fatal(n, base, got)
			}
			if (got-2*n)%(base-1) != 0 {
				t.Fatal("not twice the number by one less than the base", n, base, got)
			}
			if base%2 == 1 && got%2 != 0 {
				t.Fatal("not even in an odd base", n, base, got)
			}
			if got > impl.MaxWhole {
				above++
			}
		}
		if above < 5 {
			t.Fatal("too few are above MaxWhole", base, above)
		}
	})
}

func TestP53OneDigitMakesTwiceItself(t *testing.T) {
	eachBase(func(base int) {
		for n := range base {
			if got := impl.MadeBy(n, base); got != 2*n {
				t.Fatal(n, base, got)
			}
		}
	})
}

func TestP53OthersMakeNothing(t *testing.T) {
	mustRefuse(t, "MadeBy", impl.MadeBy)
}

// Promise 54.

func TestP54KnownMakers(t *testing.T) {
	cases := []struct {
		n, base int
		want    []int
	}{
		// 0 makes itself, and nothing else makes it.
		{0, 2, []int{0}}, {0, 3, []int{0}}, {0, 10, []int{0}}, {0, 16, []int{0}},
		{1, 2, nil}, {1, 3, nil}, {1, 10, nil}, {1, 16, nil}, {2, 2, []int{1}}, {2, 10, []int{1}}, {3, 2, []int{2}}, {3, 10, nil}, {7, 3, nil}, {9, 10, nil}, {18, 10, []int{9}}, {20, 10, nil}, {21, 10, []int{15}},
		// More than one: two, three and four.
		{5, 2, []int{3, 4}}, {101, 10, []int{91, 100}}, {103, 10, []int{92, 101}}, {257, 16, []int{241, 256}}, {129, 2, []int{123, 124, 128}}, {28, 3, []int{23, 24, 27}}, {82, 9, []int{69, 73, 81}}, {226, 15, []int{204, 211, 225}}, {248, 3, []int{239, 240, 245, 246}}, {2212, 13, []int{2180, 2186, 2204, 2210}},
		// Makers that are far from what they make, one of them more than 100.
		{900000079, 10, []int{899999999, 900000062}}, {805306474, 16, []int{805306367, 805306457}}, {536870940, 2, []int{536870911, 536870935}},
		{3000, 2, []int{2991, 2993}}, {3000, 10, []int{2976}}, {3000, 14, nil}, {1000000, 10, nil},
		{1000000000, 2, []int{999999981}}, {1000000000, 3, []int{999999983, 999999984}}, {1000000000, 10, []int{999999932}}, {1000000000, 15, []int{999999941, 999999948}}, {1000000000, 16, nil}, {999999999, 16, []int{999999927}}, {999999999, 12, []int{999999934, 999999945}}, {999999999, 15, nil},
	}
	for _, c := range cases {
		if got := impl.MakersOf(c.n, c.base); !slices.Equal(got, c.want) {
			t.Fatalf("MakersOf(%d, %d) = %v, not %v", c.n, c.base, got, c.want)
		}
	}
}

func TestP54MakersAreAllThatMakeTheNumber(t *testing.T) {
	eachBase(func(base int) {
		none, one, more := 0, 0, 0
		for n, want := range knownMakers(base) {
			got := impl.MakersOf(n, base)
			if !slices.Equal(got, want) {
				t.Fatal(n, base, got, want)
			}
			for _, maker := range got {
				if impl.MadeBy(maker, base) != n {
					t.Fatal("it makes another one", n, base, maker)
				}
			}
			switch len(got) {
			case 0:
				none++
			case 1:
				one++
			default:
				more++
			}
		}
		if none < 100 || one < 100 || more < 100 {
			t.Fatal("too few are tested", base, none, one, more)
		}
	})
}

func TestP54NoOtherNumberNearMakesTheNumber(t *testing.T) {
	eachBase(func(base int) {
		none, some := 0, 0
		for _, n := range makingWholes(base) {
			if n < 3000 {
				continue
			}
			got := impl.MakersOf(n, base)
			if want := knownMakersNear(n, base); !slices.Equal(got, want) {
				t.Fatal(n, base, got, want)
			}
			if len(got) == 0 {
				none++
			} else {
				some++
			}
		}
		if none < 10 || some < 10 {
			t.Fatal("too few are tested", base, none, some)
		}
	})
}

func TestP54EachNumberIsAMakerOfWhatItMakes(t *testing.T) {
	eachBase(func(base int) {
		for _, n := range makingWholes(base) {
			made := impl.MadeBy(n, base)
			makers := impl.MakersOf(made, base)
			if made > impl.MaxWhole {
				if len(makers) != 0 {
					t.Fatal("above MaxWhole", n, base, made, makers)
				}
				continue
			}
			if !slices.Contains(makers, n) || !slices.Equal(makers, knownMakersNear(made, base)) {
				t.Fatal(n, base, made, makers)
			}
		}
	})
}

func TestP54OthersHaveNoMakers(t *testing.T) {
	eachNoNumber(func(n int, base int) {
		if got := impl.MakersOf(n, base); len(got) != 0 {
			t.Fatalf("MakersOf(%d, %d) = %v, not nil", n, base, got)
		}
	})
}

func TestP54MakersAreNewMemory(t *testing.T) {
	eachBase(func(base int) {
		for _, n := range []int{0, 1, 2, 5, 28, 101, 129, 248, 1000000000} {
			mustBeAlone(t, func() []int { return impl.MakersOf(n, base) })
		}
	})
}

// Promise 55.

func TestP55KnownSelves(t *testing.T) {
	cases := []struct {
		n, base int
		want    bool
	}{
		{0, 2, false}, {0, 3, false}, {0, 10, false}, {0, 16, false}, {1, 2, true}, {1, 3, true}, {1, 10, true}, {1, 16, true},
		{2, 2, false}, {3, 2, false}, {4, 2, true}, {5, 2, false}, {6, 2, true}, {2, 10, false}, {3, 10, true}, {8, 10, false}, {9, 10, true}, {10, 10, false}, {11, 10, false}, {20, 10, true}, {21, 10, false}, {97, 10, true}, {101, 10, false}, {1000000, 10, true}, {1000001, 10, false},
		{7, 3, true}, {8, 3, false}, {2, 15, false}, {13, 15, true}, {14, 15, false}, {16, 15, false}, {17, 15, true}, {15, 16, true}, {16, 16, false}, {17, 16, false}, {32, 16, true}, {805306474, 16, false},
		{1000000000, 2, false}, {1000000000, 10, false}, {1000000000, 15, false}, {1000000000, 16, true}, {999999999, 2, true}, {999999999, 4, false}, {999999999, 10, false}, {999999999, 15, true}, {999999999, 16, false},
	}
	for _, c := range cases {
		if got := impl.SelfOk(c.n, c.base); got != c.want {
			t.Fatalf("SelfOk(%d, %d) = %v", c.n, c.base, got)
		}
	}
}

func TestP55InOddBasesAllOddNumbersAreSelves(t *testing.T) {
	for base := 3; base <= 15; base += 2 {
		for _, n := range makingWholes(base) {
			// What is made is even, and never grows by more than 2 from a number to the next one, so that it leaves out no even number.
			if got := impl.SelfOk(n, base); got != (n%2 == 1) {
				t.Fatal(n, base, got)
			}
		}
	}
}

func TestP55SelvesHaveNoMaker(t *testing.T) {
	eachBase(func(base int) {
		for n, makers := range knownMakers(base) {
			if got := impl.SelfOk(n, base); got != (len(makers) == 0) || got != (len(impl.MakersOf(n, base)) == 0) {
				t.Fatal(n, base, got, makers)
			}
		}
		for _, n := range makingWholes(base) {
			if got := impl.SelfOk(n, base); got != (len(impl.MakersOf(n, base)) == 0) {
				t.Fatal(n, base, got)
			}
		}
	})
}

func TestP55WhatIsMadeIsNoSelf(t *testing.T) {
	eachBase(func(base int) {
		for _, n := range makingWholes(base) {
			// What is more than MaxWhole is none either.
			if made := impl.MadeBy(n, base); impl.SelfOk(made, base) {
				t.Fatal(n, base, made)
			}
		}
	})
}

func TestP55OthersAreNoSelves(t *testing.T) {
	eachNoNumber(func(n int, base int) {
		if impl.SelfOk(n, base) {
			t.Fatal(n, base)
		}
	})
	// In odd bases these would be selves if they were numbers: all of them are odd.
	eachBase(func(base int) {
		for _, n := range []int{-3, -7, -999, 1000000001, 1000000003, 1000000005, 1<<32 + 1, 1<<32 + 7} {
			if impl.SelfOk(n, base) {
				t.Fatal(n, base)
			}
		}
	})
}

// Promise 56.

func TestP56KnownSelves(t *testing.T) {
	cases := []struct {
		most, base int
		want       []int
	}{
		{0, 2, nil}, {0, 3, nil}, {0, 10, nil}, {0, 16, nil}, {1, 2, []int{1}}, {1, 10, []int{1}}, {1, 16, []int{1}}, {2, 10, []int{1}}, {3, 10, []int{1, 3}},
		{32, 10, []int{1, 3, 5, 7, 9, 20, 31}}, {31, 10, []int{1, 3, 5, 7, 9, 20, 31}}, {30, 10, []int{1, 3, 5, 7, 9, 20}},
		{128, 10, []int{1, 3, 5, 7, 9, 20, 31, 42, 53, 64, 75, 86, 97, 108, 110, 121}},
		{48, 2, []int{1, 4, 6, 13, 15, 18, 21, 23, 30, 32, 37, 39, 46, 48}}, {12, 3, []int{1, 3, 5, 7, 9, 11}}, {12, 15, []int{1, 3, 5, 7, 9, 11}},
		{54, 4, []int{1, 3, 8, 13, 18, 20, 25, 30, 35, 37, 42, 47, 52, 54}}, {117, 16, []int{1, 3, 5, 7, 9, 11, 13, 15, 32, 49, 66, 83, 100, 117}},
	}
	for _, c := range cases {
		if got := impl.SelvesUpTo(c.most, c.base); !slices.Equal(got, c.want) {
			t.Fatalf("SelvesUpTo(%d, %d) = %v, not %v", c.most, c.base, got, c.want)
		}
	}
	ends := []struct{ base, many, last int }{{2, 760, 2999}, {3, 1500, 2999}, {4, 630, 2998}, {10, 298, 2997}, {12, 251, 2991}, {15, 1500, 2999}, {16, 193, 2995}}
	for _, c := range ends {
		if got := impl.SelvesUpTo(impl.MaxMade, c.base); len(got) != c.many || got[len(got)-1] != c.last {
			t.Fatal(c.base, len(got))
		}
	}
	// The bound itself is a self in the base 14, and none in the base 10.
	if got, other := impl.SelvesUpTo(3000, 14), impl.SelvesUpTo(3000, 10); got[len(got)-1] != 3000 || slices.Contains(other, 3000) {
		t.Fatal(got, other)
	}
}

func TestP56SelvesGoOn(t *testing.T) {
	eachBase(func(base int) {
		makers := knownMakers(base)
		var want []int
		for most := range impl.MaxMade + 1 {
			if len(makers[most]) == 0 {
				want = append(want, most)
			}
			if most > 70 && most%113 != 0 && most < 2996 {
				continue
			}
			got := impl.SelvesUpTo(most, base)
			if !slices.Equal(got, want) {
				t.Fatal(most, base, got, want)
			}
			for _, n := range got {
				if !impl.SelfOk(n, base) {
					t.Fatal("no self", most, base, n)
				}
			}
			if most == impl.MaxMade {
				continue
			}
			if impl.SelfOk(most+1, base) {
				got = append(slices.Clone(got), most+1)
			}
			if more := impl.SelvesUpTo(most+1, base); !slices.Equal(more, got) {
				t.Fatal("up to one more", most, base, got, more)
			}
		}
	})
}

func TestP56NoSelvesUpToOthers(t *testing.T) {
	eachBadMost(func(most int, base int) {
		if got := impl.SelvesUpTo(most, base); len(got) != 0 {
			t.Fatalf("SelvesUpTo(%d, %d) = %v, not nil", most, base, got)
		}
	})
}

func TestP56SelvesAreNewMemory(t *testing.T) {
	eachBase(func(base int) {
		for _, most := range []int{0, 1, 5, 400, 3000} {
			mustBeAlone(t, func() []int { return impl.SelvesUpTo(most, base) })
		}
	})
}

// Promise 57.

func TestP57KnownRows(t *testing.T) {
	cases := []struct {
		n, base int
		want    []int
	}{
		{2900, 2, []int{2900, 2906, 2913, 2919, 2927, 2936, 2943, 2953, 2959, 2967, 2975, 2984, 2990, 2998}},
		{2900, 3, []int{2900, 2910, 2920, 2924, 2930, 2936, 2942, 2950, 2956, 2962, 2968, 2976, 2982, 2988, 2994}},
		{2900, 10, []int{2900, 2911, 2924, 2941, 2957, 2980, 2999}}, {2900, 15, []int{2900, 2930, 2948, 2970, 2986}}, {2900, 16, []int{2900, 2920, 2945, 2965, 2990}},
		// The last number is MaxMade, or makes one more than that.
		{2976, 10, []int{2976, 3000}}, {2970, 16, []int{2970, 3000}}, {2970, 2, []int{2970, 2977, 2983, 2991, 3000}}, {2985, 3, []int{2985, 2992, 3000}}, {2981, 10, []int{2981}}, {2994, 2, []int{2994}}, {2987, 4, []int{2987}},
		// Rows of a single number.
		{2985, 10, []int{2985}}, {2999, 2, []int{2999}}, {2999, 10, []int{2999}}, {3000, 2, []int{3000}}, {3000, 3, []int{3000}}, {3000, 10, []int{3000}}, {3000, 16, []int{3000}},
	}
	for _, c := range cases {
		if got := impl.RowFrom(c.n, c.base); !slices.Equal(got, c.want) {
			t.Fatalf("RowFrom(%d, %d) = %v, not %v", c.n, c.base, got, c.want)
		}
	}
	fromOne := []struct {
		base, many, last int
		first            []int
	}{
		{2, 565, 3000, []int{1, 2, 3, 5, 7, 10, 12, 14, 17, 19, 22, 25, 28, 31}},
		{3, 440, 2994, []int{1, 2, 4, 6, 8, 12, 14, 18, 20, 24, 28, 30, 32, 36}},
		{10, 218, 2999, []int{1, 2, 4, 8, 16, 23, 28, 38, 49, 62, 70, 77, 91, 101}},
		{15, 167, 2984, []int{1, 2, 4, 8, 16, 18, 22, 30, 32, 36, 44, 60, 64, 72}},
		{16, 159, 2989, []int{1, 2, 4, 8, 16, 17, 19, 23, 31, 47, 64, 68, 76, 92}},
	}
	for _, c := range fromOne {
		got := impl.RowFrom(1, c.base)
		if len(got) != c.many || got[len(got)-1] != c.last || !slices.Equal(got[:len(c.first)], c.first) {
			t.Fatal(c.base, len(got), got)
		}
	}
}

func TestP57RowsGoOnFromEachOfTheirNumbers(t *testing.T) {
	eachBase(func(base int) {
		table, single := knownTable(base), 0
		for n := 1; n <= impl.MaxMade; n++ {
			got := impl.RowFrom(n, base)
			if !slices.Equal(got, knownRow(n, table)) || got[0] != n {
				t.Fatal(n, base, got)
			}
			for place, next := range got[1:] {
				if impl.MadeBy(got[place], base) != next || next > impl.MaxMade {
					t.Fatal("not what is made", n, base, got[place], next)
				}
			}
			if impl.MadeBy(got[len(got)-1], base) <= impl.MaxMade {
				t.Fatal("it could go on", n, base, got)
			}
			if len(got) == 1 {
				single++
				continue
			}
			if rest := impl.RowFrom(got[1], base); !slices.Equal(rest, got[1:]) {
				t.Fatal("not the rest", n, base, got, rest)
			}
		}
		if single < 5 {
			t.Fatal("too few rows of a single number", base, single)
		}
	})
}

func TestP57NoRowsFromOthers(t *testing.T) {
	eachNoRow(func(n int, base int) {
		if got := impl.RowFrom(n, base); len(got) != 0 {
			t.Fatalf("RowFrom(%d, %d) = %v, not nil", n, base, got)
		}
	})
}

func TestP57RowsAreNewMemory(t *testing.T) {
	eachBase(func(base int) {
		for _, n := range []int{1, 2, 153, 2900, 2990, 3000} {
			mustBeAlone(t, func() []int { return impl.RowFrom(n, base) })
		}
	})
}

// Promise 58.

func TestP58KnownJoins(t *testing.T) {
	cases := []struct{ n, m, base, want int }{
		// At once: one number is in the row of the other one, or the same.
		{1, 2, 10, 2}, {5, 10, 10, 10}, {9, 18, 10, 18}, {1, 2, 3, 2}, {10, 12, 9, 12}, {1, 101, 10, 101}, {1, 3000, 2, 3000}, {100, 2000, 2, 2000}, {2976, 3000, 10, 3000}, {7, 7, 10, 7}, {1, 1, 2, 1}, {3000, 3000, 16, 3000},
		// Later, from both numbers by one step, and by many.
		{91, 100, 10, 101}, {3, 4, 2, 5}, {123, 124, 2, 129}, {123, 128, 2, 129}, {1, 9, 2, 14}, {9, 18, 2, 22}, {1, 3, 3, 4}, {1, 9, 9, 16}, {9, 18, 9, 24}, {1, 5, 10, 620}, {5, 7, 10, 620}, {97, 100, 10, 620}, {20, 31, 10, 214}, {100, 2000, 10, 2117}, {1, 9, 12, 2031}, {100, 73, 14, 1990}, {3, 5, 15, 248}, {97, 90, 15, 692}, {97, 71, 16, 1544}, {100, 2000, 16, 2080},
		// At MaxMade.
		{2991, 2993, 2, 3000}, {2992, 2997, 3, 3000}, {2984, 2988, 9, 3000},
	}
	for _, c := range cases {
		mustJoin(t, c.n, c.m, c.base, c.want)
	}
	never := []struct{ n, m, base int }{
		{3, 5, 10}, {1, 3, 10}, {1, 9, 10}, {10, 12, 10}, {1, 3, 4}, {1, 3, 7}, {1, 5, 8}, {1, 5, 15}, {1, 3, 16}, {5, 7, 16}, {100, 2000, 15}, {2999, 3000, 10}, {2999, 3000, 2}, {1, 3000, 10}, {3000, 1, 16},
		// They come together just above MaxMade.
		{2995, 2996, 2}, {2982, 3000, 10}, {2993, 2994, 3}, {2985, 2997, 9}, {2978, 2985, 15},
	}
	for _, c := range never {
		mustNotJoin(t, c.n, c.m, c.base)
	}
}

// joining are numbers whose rows are compared: small ones, some between, and the greatest ones.
func joining() []int {
	list := []int{1000, 2000, 2500, 2900}
	for n := 1; n <= 25; n++ {
		list = append(list, n, 60+17*n, 3001-n)
	}
	slices.Sort(list)
	return list
}

func TestP58RowsComeTogetherAtTheLeastNumberOfBoth(t *testing.T) {
	list := joining()
	eachBase(func(base int) {
		table := knownTable(base)
		atOnce, later, never := 0, 0, 0
		for place, n := range list {
			first := knownRow(n, table)
			for _, m := range list[place:] {
				second := knownRow(m, table)
				at := slices.IndexFunc(second, func(number int) bool { return slices.Contains(first, number) })
				if at < 0 {
					mustNotJoin(t, n, m, base)
					never++
					continue
				}
				want := second[at]
				mustJoin(t, n, m, base, want)
				// From there on both rows are the same.
				if !slices.Equal(impl.RowFrom(n, base)[slices.Index(first, want):], impl.RowFrom(m, base)[at:]) {
					t.Fatal("the rows go apart", n, m, base, want)
				}
				if want == m {
					atOnce++
				} else {
					later++
				}
			}
		}
		if atOnce < 100 || later < 100 || never < 100 {
			t.Fatal("too few are tested", base, atOnce, later, never)
		}
	})
}

func TestP58TheSameNumberTwiceIsThere(t *testing.T) {
	eachBase(func(base int) {
		for n := 1; n <= impl.MaxMade; n++ {
			mustJoin(t, n, n, base, n)
			if made := impl.MadeBy(n, base); made <= impl.MaxMade {
				mustJoin(t, n, made, base, made)
			}
		}
	})
}

func TestP58OthersDoNotJoin(t *testing.T) {
	eachNoRow(func(n int, base int) {
		for _, m := range []int{1, 2, 5, 10, 101, 2999, 3000} {
			mustNotJoin(t, n, m, base)
		}
		mustNotJoin(t, n, n, base)
	})
	eachBase(func(base int) {
		for _, n := range badMost {
			mustNotJoin(t, n, 0, base)
			mustNotJoin(t, n, 3001, base)
		}
	})
}
