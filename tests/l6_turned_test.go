package tests

import (
	"math"
	"slices"
	"strconv"
	"testing"

	"loop.example/returningdigits/impl"
)

// knownTurned is the number turned round, however great that is, by the text that the standard library writes and reads.
func knownTurned(n int, base int) int {
	text := []byte(strconv.FormatInt(int64(n), base))
	slices.Reverse(text)
	turned, _ := strconv.ParseInt(string(text), base, 64)
	return int(turned)
}

// knownPalindrome reports whether the text of a number is the same from both ends.
func knownPalindrome(n int, base int) bool {
	text := strconv.FormatInt(int64(n), base)
	for place := range len(text) / 2 {
		if text[place] != text[len(text)-1-place] {
			return false
		}
	}
	return true
}

// knownToPalindrome are the steps to a palindrome, and which it is, or -1 and -1 if a sum comes before that is more than MaxWhole.
func knownToPalindrome(n int, base int) (int, int) {
	for steps := 0; n <= impl.MaxWhole; steps++ {
		if knownPalindrome(n, base) {
			return steps, n
		}
		n += knownTurned(n, base)
	}
	return -1, -1
}

// builtPalindromes are palindromes of up to 9 digits and at most MaxWhole, built from the texts of small halves and of some greater ones.
func builtPalindromes(base int) []int {
	list := []int{0}
	keep := func(text string) {
		n, err := strconv.ParseInt(text, base, 64)
		if err == nil && n <= impl.MaxWhole {
			list = append(list, int(n))
		}
	}
	for half := 1; half <= 90000; half += 1 + half/40 {
		front := []byte(strconv.FormatInt(int64(half), base))
		behind := slices.Clone(front)
		slices.Reverse(behind)
		keep(string(front) + string(behind))
		keep(string(front) + string(behind[1:]))
	}
	return list
}

// turnedWholes are numbers for all that is turned: someWholes, palindromes and their neighbours, and numbers that end with noughts.
func turnedWholes(base int) []int {
	list := someWholes(base)
	for _, n := range builtPalindromes(base) {
		list = append(list, n-1, n, n+1, n*base, n*base*base)
	}
	list = slices.DeleteFunc(list, func(n int) bool { return n < 0 || n > 1000000000 })
	slices.Sort(list)
	return slices.Compact(list)
}

// mustAdd fails unless the sum of a number and it turned round is told, and is the one given.
func mustAdd(t *testing.T, n int, base int, want int) {
	t.Helper()
	if got, ok := impl.AddedTurned(n, base); got != want || !ok {
		t.Fatalf("AddedTurned(%d, %d) = %d %v, not %d", n, base, got, ok, want)
	}
}

// mustNotAdd fails unless the sum of a number and it turned round is refused.
func mustNotAdd(t *testing.T, n int, base int) {
	t.Helper()
	if got, ok := impl.AddedTurned(n, base); got != -1 || ok {
		t.Fatalf("AddedTurned(%d, %d) = %d %v, not -1 false", n, base, got, ok)
	}
}

// mustStep fails unless a number leads to a palindrome after so many steps.
func mustStep(t *testing.T, n int, base int, wantSteps int, wantLast int) {
	t.Helper()
	if steps, last, ok := impl.StepsToPalindrome(n, base); steps != wantSteps || last != wantLast || !ok {
		t.Fatalf("StepsToPalindrome(%d, %d) = %d %d %v, not %d %d", n, base, steps, last, ok, wantSteps, wantLast)
	}
}

// mustNotStep fails unless no palindrome is told for a number.
func mustNotStep(t *testing.T, n int, base int) {
	t.Helper()
	if steps, last, ok := impl.StepsToPalindrome(n, base); steps != -1 || last != -1 || ok {
		t.Fatalf("StepsToPalindrome(%d, %d) = %d %d %v, not -1 -1 false", n, base, steps, last, ok)
	}
}

// Promise 26.

func TestP26KnownTurned(t *testing.T) {
	cases := []struct{ n, base, want int }{
		{0, 2, 0}, {0, 10, 0}, {0, 16, 0}, {1, 2, 1}, {9, 10, 9}, {15, 16, 15}, {1, 16, 1},
		{1205, 10, 5021}, {5021, 10, 1205}, {120, 10, 21}, {21, 10, 12}, {10, 10, 1}, {100, 10, 1}, {1200, 10, 21}, {1002, 10, 2001}, {10200, 10, 201},
		{6, 2, 3}, {2, 2, 1}, {4, 2, 1}, {12, 2, 3}, {11, 2, 13}, {13, 2, 11}, {536870912, 2, 1},
		{0x10, 16, 1}, {0xabc, 16, 0xcba}, {0xf00, 16, 0xf}, {0x10f, 16, 0xf01},
		{123456789, 10, 987654321}, {987654321, 10, 123456789}, {999999999, 10, 999999999}, {999999998, 10, 899999999}, {900000000, 10, 9},
		{1000000000, 10, 1}, {1000000000, 2, 1365623}, {1000000000, 3, 393093752}, {1000000000, 16, 11315635},
		// Turned round they are just MaxWhole, and more than it.
		{393093752, 3, 1000000000}, {395963120, 9, 1000000000}, {718968665, 14, 1000000000}, {780514241, 3, -1}, {783383609, 9, -1}, {824382169, 14, -1}, {538236535, 2, -1},
		{0x10000003, 16, 0x30000001}, {0x10000004, 16, -1}, {0x1000000f, 16, -1}, {0x30000001, 16, 0x10000003},
		{536870913, 2, 536870913}, {536871223, 2, 991952897}, {999999999, 2, -1}, {1000000000, 5, 304}, {1000000000, 15, -1}, {1000000000, 11, -1},
	}
	for _, c := range cases {
		if got := impl.TurnedOf(c.n, c.base); got != c.want {
			t.Fatalf("TurnedOf(%d, %d) = %d, not %d", c.n, c.base, got, c.want)
		}
	}
}

func TestP26TurnedTwiceItIsAsBefore(t *testing.T) {
	eachBase(func(base int) {
		for _, n := range turnedWholes(base) {
			turned := impl.TurnedOf(n, base)
			want := knownTurned(n, base)
			if want > impl.MaxWhole {
				want = -1
			}
			if turned != want {
				t.Fatal(n, base, turned, want)
			}
			if turned < 0 {
				continue
			}
			if n%base != 0 && impl.TurnedOf(turned, base) != n {
				t.Fatal("turned again", n, base, turned)
			}
			if impl.SumOf(turned, base) != impl.SumOf(n, base) || (n-turned)%(base-1) != 0 {
				t.Fatal("the sum, or the rest", n, base, turned)
			}
		}
	})
}

func TestP26NoughtsAtTheEndAreLeftOut(t *testing.T) {
	eachBase(func(base int) {
		for n := 1; n < 400; n++ {
			want := impl.TurnedOf(n, base)
			for behind := n * base; behind <= impl.MaxWhole; behind *= base {
				if got := impl.TurnedOf(behind, base); got != want {
					t.Fatal(behind, base, got, want)
				}
			}
		}
	})
}

func TestP26OthersAreNotTurned(t *testing.T) {
	mustRefuse(t, "TurnedOf", impl.TurnedOf)
}

// Promise 27.

func TestP27KnownPalindromes(t *testing.T) {
	cases := []struct {
		n, base int
		want    bool
	}{
		{0, 2, true}, {0, 10, true}, {0, 16, true}, {1, 2, true}, {9, 10, true}, {15, 16, true},
		{10, 10, false}, {11, 10, true}, {12, 10, false}, {99, 10, true}, {100, 10, false}, {101, 10, true}, {120, 10, false}, {110, 10, false},
		{1221, 10, true}, {1231, 10, false}, {1222, 10, false}, {2221, 10, false}, {12321, 10, true}, {12331, 10, false}, {12210, 10, false},
		{2, 2, false}, {3, 2, true}, {5, 2, true}, {6, 2, false}, {7, 2, true}, {9, 2, true}, {11, 2, false},
		{0x11, 16, true}, {0xabba, 16, true}, {0xabbb, 16, false}, {0xabcba, 16, true}, {16, 16, false},
		{999999999, 10, true}, {999999998, 10, false}, {1000000000, 10, false}, {1000000000, 2, false}, {536870913, 2, true}, {536870914, 2, false},
		{0x10000001, 16, true}, {0x1000000f, 16, false}, {0x3b9aa9b3, 16, true}, {0x3b9ac9b3, 16, false}, {999999999, 2, false},
	}
	for _, c := range cases {
		if got := impl.PalindromeOk(c.n, c.base); got != c.want {
			t.Fatalf("PalindromeOk(%d, %d) = %v", c.n, c.base, got)
		}
	}
}

func TestP27PalindromesOfAnEvenNumberOfDigitsAreMultiples(t *testing.T) {
	eachBase(func(base int) {
		for _, n := range turnedWholes(base) {
			got := impl.PalindromeOk(n, base)
			if got != knownPalindrome(n, base) || got != (impl.TurnedOf(n, base) == n) {
				t.Fatal(n, base, got)
			}
			if !got || n == 0 {
				continue
			}
			if n%base == 0 || impl.LongOf(n, base)%2 == 0 && n%(base+1) != 0 {
				t.Fatal("a nought at the end, or no multiple", n, base)
			}
		}
	})
}

func TestP27BuiltPalindromesArePalindromes(t *testing.T) {
	eachBase(func(base int) {
		odd, even := 0, 0
		for _, n := range builtPalindromes(base) {
			if !impl.PalindromeOk(n, base) {
				t.Fatal(n, base)
			}
			if len(knownDigits(n, base))%2 == 0 {
				even++
			} else {
				odd++
			}
		}
		if odd < 100 || even < 100 {
			t.Fatal("too few are tested", base, odd, even)
		}
	})
}

func TestP27OneDigitIsAPalindrome(t *testing.T) {
	eachBase(func(base int) {
		for n := range base {
			if !impl.PalindromeOk(n, base) || impl.TurnedOf(n, base) != n {
				t.Fatal(n, base)
			}
		}
	})
}

func TestP27OthersAreNoPalindromes(t *testing.T) {
	eachNoNumber(func(n int, base int) {
		if impl.PalindromeOk(n, base) {
			t.Fatal(n, base)
		}
	})
}

// Promise 28.

func TestP28KnownCounts(t *testing.T) {
	cases := []struct{ long, base, want int }{
		{1, 10, 9}, {2, 10, 9}, {3, 10, 90}, {4, 10, 90}, {5, 10, 900}, {6, 10, 900},
		{1, 2, 1}, {2, 2, 1}, {3, 2, 2}, {4, 2, 2}, {5, 2, 4}, {6, 2, 4},
		{1, 16, 15}, {2, 16, 15}, {3, 16, 240}, {4, 16, 240}, {5, 16, 3840}, {6, 16, 3840},
		{1, 3, 2}, {4, 3, 6}, {6, 7, 294},
	}
	for _, c := range cases {
		if got := impl.CountPalindromes(c.long, c.base); got != c.want {
			t.Fatalf("CountPalindromes(%d, %d) = %d, not %d", c.long, c.base, got, c.want)
		}
	}
}

func TestP28CountedOneByOne(t *testing.T) {
	eachBase(func(base int) {
		for long := 1; long <= 6; long++ {
			if long > 3 && beyond(long, base) > 70000 {
				continue
			}
			count := 0
			for n := 1; n < beyond(long, base); n++ {
				if impl.LongOf(n, base) == long && impl.PalindromeOk(n, base) {
					count++
				}
			}
			if got := impl.CountPalindromes(long, base); got != count {
				t.Fatal(long, base, got, count)
			}
		}
	})
}

func TestP28TwoDigitsMoreAreTheBaseAsMany(t *testing.T) {
	eachBase(func(base int) {
		for long := 1; long <= 4; long++ {
			few, many := impl.CountPalindromes(long, base), impl.CountPalindromes(long+2, base)
			if few < 1 || many != few*base {
				t.Fatal(long, base, few, many)
			}
		}
	})
}

func TestP28NoCountOfOthers(t *testing.T) {
	refuse := func(long int, base int) {
		if got := impl.CountPalindromes(long, base); got != -1 {
			t.Fatalf("CountPalindromes(%d, %d) = %d, not -1", long, base, got)
		}
	}
	for _, long := range []int{math.MinInt, -6, -2, -1, 0, 7, 8, 9, 100, 1000000000, math.MaxInt} {
		for base := 0; base <= 18; base++ {
			refuse(long, base)
		}
	}
	for _, base := range badBases {
		for long := -1; long <= 8; long++ {
			refuse(long, base)
		}
	}
}

// Promise 29.

func TestP29KnownNext(t *testing.T) {
	cases := []struct{ n, base, want int }{
		{0, 10, 1}, {1, 10, 2}, {8, 10, 9}, {9, 10, 11}, {10, 10, 11}, {11, 10, 22}, {98, 10, 99}, {99, 10, 101}, {100, 10, 101}, {101, 10, 111},
		{120, 10, 121}, {121, 10, 131}, {191, 10, 202}, {199, 10, 202}, {989, 10, 999}, {999, 10, 1001}, {1000, 10, 1001}, {1221, 10, 1331}, {1220, 10, 1221},
		{1991, 10, 2002}, {9889, 10, 9999}, {12345, 10, 12421}, {12921, 10, 13031}, {54321, 10, 54345}, {99999, 10, 100001},
		{999998, 10, 999999}, {999999, 10, 1000001}, {1000000, 10, 1000001},
		{0, 2, 1}, {1, 2, 3}, {2, 2, 3}, {3, 2, 5}, {4, 2, 5}, {5, 2, 7}, {7, 2, 9}, {1000000, 2, 1001007}, {524287, 2, 524289},
		{0, 16, 1}, {14, 16, 15}, {15, 16, 17}, {16, 16, 17}, {0xff, 16, 0x101}, {0xffff, 16, 0x10001}, {1000000, 16, 0xf424f}, {0x9fff9, 16, 0xa000a},
	}
	for _, c := range cases {
		if got := impl.NextPalindrome(c.n, c.base); got != c.want {
			t.Fatalf("NextPalindrome(%d, %d) = %d, not %d", c.n, c.base, got, c.want)
		}
	}
}

func TestP29NextOfAllPalindromes(t *testing.T) {
	eachBase(func(base int) {
		for last, next := 0, 1; last <= 1000000; next++ {
			if !knownPalindrome(next, base) {
				continue
			}
			// All from the last one on are next to the same one: the first, the one between, and the last of them are asked.
			for _, n := range []int{last, (last + next) / 2, next - 1} {
				if got := impl.NextPalindrome(n, base); n <= 1000000 && got != next {
					t.Fatal(n, base, got, next)
				}
			}
			last = next
		}
	})
}

func TestP29NoPalindromeIsBetween(t *testing.T) {
	eachBase(func(base int) {
		for _, n := range append(turnedWholes(base), 999997, 999998, 999999, 1000000) {
			if n > 1000000 {
				continue
			}
			next := impl.NextPalindrome(n, base)
			if next <= n || !impl.PalindromeOk(next, base) {
				t.Fatal(n, base, next)
			}
			for between := max(n+1, next-200); between < next; between++ {
				if impl.PalindromeOk(between, base) {
					t.Fatal("one is between", n, base, between, next)
				}
			}
		}
	})
}

func TestP29NoNextOfOthers(t *testing.T) {
	mustRefuse(t, "NextPalindrome", impl.NextPalindrome)
	eachBase(func(base int) {
		for _, n := range []int{1000001, 1000002, 1234321, 16777215, 999999999, 1000000000} {
			if got := impl.NextPalindrome(n, base); got != -1 {
				t.Fatalf("NextPalindrome(%d, %d) = %d, not -1", n, base, got)
			}
		}
	})
}

// Promise 30.

// carryless reports whether each digit, and the one that is as far from the other end, are together less than the base.
func carryless(n int, base int) bool {
	digits := knownDigits(n, base)
	for place, digit := range digits {
		if digit+digits[len(digits)-1-place] >= base {
			return false
		}
	}
	return true
}

// smallDigits are numbers whose digits are at most half of the base, so that many of them are added without carries.
func smallDigits(base int) []int {
	var list []int
	for seed := 1; seed <= 3000; seed += 1 + seed/60 {
		n := 0
		for left := seed * seed; left > 0; left /= 7 {
			if n > impl.MaxWhole/base-1 {
				break
			}
			n = n*base + left%7%(base/2+1)
		}
		list = append(list, n)
	}
	return list
}

func TestP30KnownSums(t *testing.T) {
	cases := []struct{ n, base, want int }{
		{0, 2, 0}, {0, 10, 0}, {0, 16, 0}, {1, 2, 2}, {4, 10, 8}, {5, 10, 10}, {9, 10, 18}, {15, 16, 30}, {7, 16, 14},
		{56, 10, 121}, {59, 10, 154}, {10, 10, 11}, {100, 10, 101}, {120, 10, 141}, {1200, 10, 1221}, {12, 10, 33}, {123, 10, 444}, {1205, 10, 6226}, {196, 10, 887}, {99, 10, 198},
		{6, 2, 9}, {2, 2, 3}, {11, 2, 24}, {3, 2, 6}, {0xabc, 16, 0x1776}, {0x123, 16, 0x444},
		{400000000, 10, 400000004}, {499999994, 10, 999999988}, {499999995, 10, -1}, {500000004, 10, 900000009}, {999999990, 10, -1}, {900000000, 10, 900000009}, {999999999, 10, -1}, {123456789, 10, -1},
		{100000008, 10, 900000009}, {100000009, 10, -1},
		// The least sum that is too great, and numbers that can't be turned round.
		{1000000000, 10, -1}, {1000000000, 2, -1}, {0x1000000f, 16, -1}, {538236535, 2, -1}, {536870912, 2, 536870913}, {0x10000002, 16, 0x30000003}, {0x20000002, 16, -1},
	}
	for _, c := range cases {
		if c.want < 0 {
			mustNotAdd(t, c.n, c.base)
		} else {
			mustAdd(t, c.n, c.base, c.want)
		}
	}
}

func TestP30SumsAreOfTheNumberAndItTurned(t *testing.T) {
	eachBase(func(base int) {
		for _, n := range turnedWholes(base) {
			turned := knownTurned(n, base)
			if turned > impl.MaxWhole || n+turned > impl.MaxWhole {
				mustNotAdd(t, n, base)
				continue
			}
			mustAdd(t, n, base, n+turned)
			if len(knownDigits(n, base))%2 == 0 && n%base != 0 && (n+turned)%(base+1) != 0 {
				t.Fatal("no multiple", n, base, turned)
			}
		}
	})
}

func TestP30WithoutCarriesAPalindromeComesAtOnce(t *testing.T) {
	eachBase(func(base int) {
		without, with := 0, 0
		for _, n := range append(turnedWholes(base), smallDigits(base)...) {
			sum, ok := impl.AddedTurned(n, base)
			if !ok || n%base == 0 {
				continue
			}
			if !carryless(n, base) {
				with++
				continue
			}
			without++
			if !impl.PalindromeOk(sum, base) || impl.LongOf(sum, base) != impl.LongOf(n, base) {
				t.Fatal(n, base, sum)
			}
			if impl.LongOf(n, base)%2 == 0 && sum%(base+1) != 0 {
				t.Fatal("no multiple", n, base, sum)
			}
		}
		// In the base 2 the first digit and the last one are both 1, or the last one is 0.
		if with < 50 || (without < 50) != (base == 2) {
			t.Fatal("too few are tested", base, without, with)
		}
	})
}

func TestP30OthersAreNotAdded(t *testing.T) {
	eachNoNumber(func(n int, base int) { mustNotAdd(t, n, base) })
}

// Promise 31.

func TestP31KnownSteps(t *testing.T) {
	cases := []struct{ n, base, steps, last int }{
		{0, 2, 0, 0}, {0, 10, 0, 0}, {0, 16, 0, 0}, {1, 2, 0, 1}, {9, 10, 0, 9}, {15, 16, 0, 15}, {121, 10, 0, 121}, {1221, 10, 0, 1221},
		{10, 10, 1, 11}, {100, 10, 1, 101}, {120, 10, 1, 141}, {12, 10, 1, 33}, {56, 10, 1, 121}, {153, 10, 2, 909}, {59, 10, 3, 1111}, {87, 10, 4, 4884}, {97, 10, 6, 44044},
		{2, 2, 1, 3}, {11, 2, 2, 27}, {6, 2, 1, 9}, {16, 16, 1, 17},
		{999999999, 10, 0, 999999999}, {900000000, 10, 1, 900000009}, {536870913, 2, 0, 536870913}, {536870912, 2, 1, 536870913}, {0x3b9aa9b3, 16, 0, 0x3b9aa9b3},
		// Many steps, for their base.
		{2990, 10, 14, 52788725}, {4264, 2, 27, 402653187}, {53, 3, 18, 3890408}, {4268, 4, 18, 201064190}, {375, 8, 17, 917769078}, {69584, 16, 14, 790274546},
	}
	for _, c := range cases {
		mustStep(t, c.n, c.base, c.steps, c.last)
	}
}

func TestP31NoPalindromeIsTold(t *testing.T) {
	cases := []struct{ n, base int }{
		{196, 10}, {89, 10}, {98, 10}, {295, 10}, {887, 10}, {22, 2}, {26, 2},
		{1000000000, 10}, {600000005, 10}, {999999998, 10}, {100000009, 10}, {1000000000, 2}, {999999999, 2},
		{0x1000000f, 16}, {0x20000001, 15}, {1000000000, 16},
	}
	for _, c := range cases {
		mustNotStep(t, c.n, c.base)
	}
}

func TestP31EachStepIsOneNearer(t *testing.T) {
	eachBase(func(base int) {
		told, untold := 0, 0
		for _, n := range turnedWholes(base) {
			wantSteps, wantLast := knownToPalindrome(n, base)
			if wantSteps < 0 {
				mustNotStep(t, n, base)
				untold++
				continue
			}
			mustStep(t, n, base, wantSteps, wantLast)
			told++
			if (wantSteps == 0) != impl.PalindromeOk(n, base) || !impl.PalindromeOk(wantLast, base) {
				t.Fatal(n, base, wantSteps, wantLast)
			}
			if wantSteps == 0 {
				continue
			}
			sum, ok := impl.AddedTurned(n, base)
			if !ok {
				t.Fatal("no sum", n, base)
			}
			mustStep(t, sum, base, wantSteps-1, wantLast)
		}
		if told < 100 || untold < 20 {
			t.Fatal("too few are tested", base, told, untold)
		}
	})
}

func TestP31NoStepsOfOthers(t *testing.T) {
	eachNoNumber(func(n int, base int) { mustNotStep(t, n, base) })
}
