package tests

import (
	"math"
	"regexp"
	"slices"
	"strconv"
	"strings"
	"testing"

	"loop.example/returningdigits/impl"
)

// badKinds are no kinds of deeds: just outside of both bounds, and far from them.
var badKinds = []int{math.MinInt, -256, -8, -7, -2, -1, 8, 9, 10, 15, 16, 255, 256, 1 << 32, 1<<32 + 1, math.MaxInt}

// plainWords are the texts of the deeds that name no number, each at the place of its kind.
var plainWords = []string{1: "sum", 2: "product", 3: "squares", 4: "turn", 5: "add", 6: "make", 7: "back"}

// plainQuestions are the questions of one word.
var plainQuestions = []string{"number", "digits", "root", "round", "happy", "palindrome", "self", "persists", "noughts", "steps"}

// noNumbers are texts that tell no number in 0..MaxWhole in decimal without leading zeros.
var noNumbers = []string{
	"", " ", "x", "-", "+", "-1", "-0", "+0", "+5", "00", "01", "007", "0000000000", "01000000000", "5 ", " 5", "5 6", "5\n", "\n5", "5\r", "5\x00", "\x005", "5\xff", "5.0", "5,6", "1e3", "1_000", "0x5", "0b1", "0o7", "five", "none",
	"1000000001", "1000000010", "10000000000", "2147483648", "4294967296", "4294967301", "9223372036854775807", "9223372036854775808", "18446744073709551616", "18446744073709551621", "99999999999999999999999999", "-1000000000", "-9223372036854775808",
	"\u0665", "\uff15", "\u00a05", "\u2212" + "5",
}

// strayLines are neither the text of a deed nor a question, but for those with a number.
var strayLines = []string{
	"", " ", "\n", "\x00", "\xff", "\xff\xfe\x80", "what", "ok", "not", "none", "yes", "no", "5", "0", "153", "to", "To 5", "TO 5", "to  5", "to\t5", " to 5", "to5", "t", "so 5", "too 5", "to 5 6", "to to 5", "carries", "one", "Sum", "SUM", "sums", "su", "sum ", " sum", "sum\n", "sum\r", "sum sum", "sum,product", "sum\x00", "products", "square", "turns", "adds", "makes", "backs", "back ", "back 0", "sum 0", "sum 5", "product 1", "squares 2", "turn 0", "add 7", "make 7", "back 1",
	"Number", "numbers", "number ", " number", "number 5", "number\n", "digit", "digits 10", "root 0", "rounds", "round 2", "happy ", "palindromes", "selves", "self 1", "persist", "nought", "noughts 0", "step", "steps 1", "\u0455um", "Carries 5", "carry 5", "carries5", "carries  5", "One 7", "ones 7", "one7", "one  7", "two 7",
}

// deskOf is a desk with numbers of before, the last one last.
func deskOf(base int, now int, past ...int) impl.Desk {
	return impl.Desk{Base: base, Now: now, Past: past}
}

// sameDesk reports whether two desks are the same.
func sameDesk(d impl.Desk, e impl.Desk) bool {
	return d.Base == e.Base && d.Now == e.Now && slices.Equal(d.Past, e.Past)
}

// nothing reports whether a desk is the zero value.
func nothing(d impl.Desk) bool {
	return d.Base == 0 && d.Now == 0 && d.Past == nil
}

// somePasts are numbers of before: none, one, one fewer than most, most, and some in between.
func somePasts() [][]int {
	return [][]int{nil, {0}, {1000000000}, {12, 12}, {5, 0, 999999999}, {1, 2, 3, 4, 5, 6, 7}, {8, 7, 6, 5, 4, 3, 2, 1}, {0, 0, 0, 0, 1000000000, 1000000000, 1000000000, 153}}
}

// eachDesk calls for desks in each base: with numbers that are told, those of before taken in turns.
func eachDesk(wholes func(base int) []int, f func(d impl.Desk)) {
	pasts := somePasts()
	eachBase(func(base int) {
		for place, n := range wholes(base) {
			f(deskOf(base, n, pasts[place%len(pasts)]...))
		}
	})
}

// deskWholes are numbers for desks: the least ones, the greatest ones, and some between, fewer than someWholes.
func deskWholes(base int) []int {
	list := []int{0, 1, 2, base - 1, base, base + 1, base*base - 1, 153, 196, 255, 805306474, 999999932, 999999999, impl.MaxWhole}
	for place, n := range someWholes(base) {
		if place%11 == 0 {
			list = append(list, n)
		}
	}
	slices.Sort(list)
	return slices.Compact(list)
}

// eachBadDesk calls for desks that are none: the base, the number, or one of before is none, or there are too many of these.
func eachBadDesk(f func(d impl.Desk)) {
	f(impl.Desk{})
	eachNoNumber(func(n int, base int) {
		f(deskOf(base, n))
		f(deskOf(base, n, 1, 2))
	})
	eachBase(func(base int) {
		for _, bad := range badWholes {
			f(deskOf(base, 5, bad))
			f(deskOf(base, 0, bad, 1, 2))
			f(deskOf(base, 5, 1, bad, 2))
			f(deskOf(base, 5, 1, 2, 3, 4, 5, 6, 7, bad))
			f(deskOf(base, 5, bad, 2, 3, 4, 5, 6, 7, 8))
		}
		f(deskOf(base, 5, 1, 2, 3, 4, 5, 6, 7, 8, 9))
		f(deskOf(base, 0, make([]int, 9)...))
		f(deskOf(base, 0, make([]int, 16)...))
		f(deskOf(base, 0, make([]int, 1000)...))
	})
}

// someDeeds are deeds of each kind, with many numbers that are taken.
func someDeeds() []impl.Deed {
	var list []impl.Deed
	for _, n := range []int{0, 1, 2, 9, 10, 12, 47, 153, 1000, 123456789, 999999999, 1000000000} {
		list = append(list, impl.Deed{Kind: impl.DkTo, N: n})
	}
	for kind := 1; kind <= 7; kind++ {
		list = append(list, impl.Deed{Kind: kind})
	}
	return list
}

// noDeeds are deeds that have no text, and cannot be done at any desk.
func noDeeds() []impl.Deed {
	var list []impl.Deed
	for _, n := range badWholes {
		list = append(list, impl.Deed{Kind: impl.DkTo, N: n})
	}
	for kind := 1; kind <= 7; kind++ {
		for _, n := range []int{math.MinInt, -1, 1, 2, 7, 12, 153, 1000000000, 1000000001, 1 << 32, math.MaxInt} {
			list = append(list, impl.Deed{Kind: kind, N: n})
		}
	}
	for _, kind := range badKinds {
		for _, n := range []int{-1, 0, 1, 12, 1000000000} {
			list = append(list, impl.Deed{Kind: kind, N: n})
		}
	}
	return list
}

// manyDeeds are so many deeds, in an order without a pattern, that are the same each time; of those that cannot be done there are some, too.
func manyDeeds(seed int, long int) []impl.Deed {
	var list []impl.Deed
	deeds, none := someDeeds(), noDeeds()
	state := uint32(seed*7919 + 1)
	for range long {
		state = state*1664525 + 1013904223
		pick := int(state >> 12)
		switch {
		case pick%13 == 0:
			list = append(list, none[pick/13%len(none)])
		case pick%3 == 0:
			list = append(list, impl.Deed{Kind: impl.DkTo, N: pick * 953 % (impl.MaxWhole + 1)})
		default:
			list = append(list, deeds[pick/13%len(deeds)])
		}
	}
	return list
}

// textedDeeds are so many deeds as manyDeeds, all of which have a text.
func textedDeeds(seed int, long int) []impl.Deed {
	list := slices.DeleteFunc(manyDeeds(seed, 2*long+20), func(a impl.Deed) bool { return knownDeedText(a) == "" })
	return list[:long]
}

// manyLines are so many lines: deeds, questions, and others, the same each time.
func manyLines(seed int, long int) []string {
	var list []string
	state := uint32(seed*104729 + 7)
	for range long {
		state = state*1664525 + 1013904223
		pick := int(state >> 11)
		switch pick % 5 {
		case 0:
			list = append(list, plainQuestions[pick/5%len(plainQuestions)])
		case 1:
			list = append(list, []string{"carries ", "one "}[pick/5%2]+strconv.Itoa(pick/10%250))
		case 2:
			list = append(list, strayLines[pick/5%len(strayLines)])
		case 3:
			list = append(list, "to "+strconv.Itoa(pick*953%(impl.MaxWhole+1)))
		default:
			list = append(list, plainWords[1+pick/5%7])
		}
	}
	return list
}

// knownDeedText is the text of a deed, "" if it has none.
func knownDeedText(a impl.Deed) string {
	if a.Kind == 0 && a.N >= 0 && a.N <= 1000000000 {
		return "to " + strconv.Itoa(a.N)
	}
	if a.Kind >= 1 && a.Kind <= 7 && a.N == 0 {
		return plainWords[a.Kind]
	}
	return ""
}

// knownTo is the number to which a deed leads from another one, however great it is; -1 for deeds without one.
func knownTo(n int, base int, a impl.Deed) int {
	switch knownDeedText(impl.Deed{Kind: a.Kind}) {
	case "to 0":
		return a.N
	case "sum":
		return knownSum(n, base)
	case "product":
		return knownProduct(n, base)
	case "squares":
		return knownNext(n, 2, base)
	case "turn":
		return knownTurned(n, base)
	case "add":
		return n + knownTurned(n, base)
	case "make":
		return n + knownSum(n, base)
	}
	return -1
}

// knownDo is a desk after a deed, in new memory, and whether it is done.
func knownDo(d impl.Desk, a impl.Deed) (impl.Desk, bool) {
	past := slices.Clone(d.Past)
	if knownDeedText(a) == "" || a.Kind == 7 && len(past) == 0 {
		return deskOf(d.Base, d.Now, past...), false
	}
	if a.Kind == 7 {
		return deskOf(d.Base, past[len(past)-1], past[:len(past)-1]...), true
	}
	next := knownTo(d.Now, d.Base, a)
	if next == d.Now || next > 1000000000 {
		return deskOf(d.Base, d.Now, past...), false
	}
	if len(past) == 8 {
		past = past[1:]
	}
	return deskOf(d.Base, next, append(past, d.Now)...), true
}

// knownRun is a desk after deeds, and how many were done.
func knownRun(d impl.Desk, list []impl.Deed) (impl.Desk, int) {
	times := 0
	for _, a := range list {
		after, done := knownDo(d, a)
		if done {
			times++
		}
		d = after
	}
	return d, times
}

// knownList are numbers in decimal with commas between them.
func knownList(list []int) string {
	text := ""
	for place, n := range list {
		if place > 0 {
			text += ","
		}
		text += strconv.FormatInt(int64(n), 10)
	}
	return text
}

// knownYes is yes or no.
func knownYes(holds bool) string {
	return map[bool]string{true: "yes", false: "no"}[holds]
}

// knownNoughts is the least of how often the primes of the base divide the product of all numbers, as often as these are in the base.
func knownNoughts(n int, base int) int {
	least := math.MaxInt
	for prime, often := range knownFactors(base) {
		least = min(least, knownProductOften(n, prime)/often)
	}
	return least
}

// knownQuestion is the answer to a question of one word.
func knownQuestion(n int, base int, word string) string {
	switch word {
	case "number":
		return strconv.Itoa(n)
	case "digits":
		return knownList(knownDigits(n, base))
	case "root":
		return strconv.Itoa(knownRoot(n, base))
	case "round":
		return knownList(knownRound(n, 2, base))
	case "happy":
		return knownYes(slices.Contains(knownRound(n, 2, base), 1))
	case "palindrome":
		return knownYes(knownPalindrome(n, base))
	case "self":
		return knownYes(len(knownMakersNear(n, base)) == 0)
	case "persists":
		steps, _ := knownPersists(n, base)
		return strconv.Itoa(steps)
	case "noughts":
		return strconv.Itoa(knownNoughts(n, base))
	case "steps":
		if steps, _ := knownToPalindrome(n, base); steps >= 0 {
			return strconv.Itoa(steps)
		}
		return "none"
	}
	return "what"
}

// knownOne is the answer to the question for the round of one divided by a number.
func knownOne(under int, base int) string {
	if under < 2 || under > 200 || !knownAlone(under, base) {
		return "none"
	}
	var digits []int
	for _, c := range knownText(1, under, base, knownPeriod(under, base)) {
		digit, _ := strconv.ParseInt(string(c), base, 64)
		digits = append(digits, int(digit))
	}
	return knownList(digits)
}

// mustDo fails unless a deed leads from a desk to another one, or cannot be done.
func mustDo(t *testing.T, d impl.Desk, a impl.Deed, want impl.Desk, done bool) {
	t.Helper()
	if got, ok := impl.DeskDo(d, a); !sameDesk(got, want) || ok != done {
		t.Fatalf("DeskDo(%v, %v) = %v %v, not %v %v", d, a, got, ok, want, done)
	}
}

// mustRun fails unless deeds lead from a desk to another one, so many of them done.
func mustRun(t *testing.T, d impl.Desk, list []impl.Deed, want impl.Desk, times int) {
	t.Helper()
	if got, n := impl.DeskRun(d, list); !sameDesk(got, want) || n != times {
		t.Fatalf("DeskRun(%v, %v) = %v %d, not %v %d", d, list, got, n, want, times)
	}
}

// mustAnswer fails unless a line to a desk has an answer, and leaves the desk as it is.
func mustAnswer(t *testing.T, d impl.Desk, line string, want string) {
	t.Helper()
	if got, answer := impl.DeskLine(d, line); answer != want || !sameDesk(got, d) {
		t.Fatalf("DeskLine(%v, %q) = %v %q, not %q", d, line, got, answer, want)
	}
}

// mustNotRead fails unless a text is refused as that of a deed.
func mustNotRead(t *testing.T, s string) {
	t.Helper()
	if got, ok := impl.ReadDeed(s); ok || got != (impl.Deed{}) {
		t.Fatalf("ReadDeed(%q) = %v %v", s, got, ok)
	}
}

// mustRead fails unless just these deeds are read from a text, and so many bytes.
func mustRead(t *testing.T, s string, want []impl.Deed, long int) {
	t.Helper()
	if got, n := impl.ReadJournal(s); !slices.Equal(got, want) || n != long {
		t.Fatalf("ReadJournal(%q) = %v %d, not %v %d", s, got, n, want, long)
	}
}

// mustKeepDesk fails unless a call leaves the numbers of before of a desk, and the memory behind them, as they are, and what it returns shares memory neither with them nor with what it returns another time.
func mustKeepDesk(t *testing.T, d impl.Desk, call func(d impl.Desk) impl.Desk) {
	t.Helper()
	const room = 12
	memory := make([]int, room)
	fill := func(n int) {
		for i := range memory {
			memory[i] = n
		}
		copy(memory, d.Past)
	}
	fill(-55)
	given := impl.Desk{Base: d.Base, Now: d.Now, Past: memory[:len(d.Past)]}
	kept := slices.Clone(memory)
	first := call(given)
	want := impl.Desk{Base: first.Base, Now: first.Now, Past: slices.Clone(first.Past)}
	second := call(given)
	if !slices.Equal(memory, kept) {
		t.Fatalf("the desk %v was written to: %v", d, memory)
	}
	behind := first.Past[:cap(first.Past)]
	for i := range behind {
		behind[i] = -77
	}
	if !slices.Equal(memory, kept) || !sameDesk(second, want) {
		t.Fatalf("what was written to one result is seen elsewhere: %v %v", memory, second)
	}
	for i := range memory {
		memory[i] = -66
	}
	if !sameDesk(second, want) {
		t.Fatalf("what was written to the desk is seen in a result: %v, not %v", second, want)
	}
}

func TestDeskBounds(t *testing.T) {
	if impl.MaxPast != 8 || impl.MaxLines != 40 {
		t.Fatal(impl.MaxPast, impl.MaxLines)
	}
	kinds := []int{impl.DkTo, impl.DkSum, impl.DkProduct, impl.DkSquares, impl.DkTurn, impl.DkAdd, impl.DkMake, impl.DkBack}
	for place, kind := range kinds {
		if kind != place {
			t.Fatal(place, kind)
		}
	}
}

// Promise 59.

func TestP59KnownDeeds(t *testing.T) {
	cases := []struct {
		base, now int
		past      []int
		kind, n   int
		want      int
		wantPast  []int
		done      bool
	}{
		{10, 153, nil, impl.DkSum, 0, 9, []int{153}, true},
		{10, 153, nil, impl.DkProduct, 0, 15, []int{153}, true},
		{10, 153, nil, impl.DkSquares, 0, 35, []int{153}, true},
		{10, 153, nil, impl.DkTurn, 0, 351, []int{153}, true},
		{10, 153, nil, impl.DkAdd, 0, 504, []int{153}, true},
		{10, 153, nil, impl.DkMake, 0, 162, []int{153}, true},
		{10, 153, nil, impl.DkBack, 0, 153, nil, false},
		{10, 153, nil, impl.DkTo, 0, 0, []int{153}, true},
		{10, 153, nil, impl.DkTo, 1, 1, []int{153}, true},
		{10, 153, nil, impl.DkTo, 153, 153, nil, false},
		{10, 153, nil, impl.DkTo, 1000000000, 1000000000, []int{153}, true},
		{10, 153, nil, impl.DkTo, 1000000001, 153, nil, false},
		{10, 153, nil, impl.DkTo, -1, 153, nil, false},
		{16, 255, []int{7}, impl.DkSum, 0, 30, []int{7, 255}, true},
		{16, 255, []int{7}, impl.DkProduct, 0, 225, []int{7, 255}, true},
		{16, 255, []int{7}, impl.DkSquares, 0, 450, []int{7, 255}, true},
		{16, 255, []int{7}, impl.DkTurn, 0, 255, []int{7}, false},
		{16, 255, []int{7}, impl.DkAdd, 0, 510, []int{7, 255}, true},
		{16, 255, []int{7}, impl.DkMake, 0, 285, []int{7, 255}, true},
		{16, 255, []int{7}, impl.DkBack, 0, 7, nil, true},
		// Of 0 nothing is done but to take another number, and to put one back.
		{10, 0, []int{4}, impl.DkSum, 0, 0, []int{4}, false},
		{10, 0, []int{4}, impl.DkProduct, 0, 0, []int{4}, false},
		{10, 0, []int{4}, impl.DkSquares, 0, 0, []int{4}, false},
		{10, 0, []int{4}, impl.DkTurn, 0, 0, []int{4}, false},
		{10, 0, []int{4}, impl.DkAdd, 0, 0, []int{4}, false},
		{10, 0, []int{4}, impl.DkMake, 0, 0, []int{4}, false},
		{10, 0, []int{4}, impl.DkBack, 0, 4, nil, true},
		{10, 0, []int{4}, impl.DkTo, 0, 0, []int{4}, false},
		{10, 0, []int{4}, impl.DkTo, 1, 1, []int{4, 0}, true},
		// From the greatest numbers on the way may lead above MaxWhole, or just to it.
		{10, 1000000000, nil, impl.DkTurn, 0, 1, []int{1000000000}, true},
		{10, 1000000000, nil, impl.DkAdd, 0, 1000000000, nil, false},
		{10, 1000000000, nil, impl.DkMake, 0, 1000000000, nil, false},
		{10, 1000000000, nil, impl.DkSum, 0, 1, []int{1000000000}, true},
		{10, 1000000000, nil, impl.DkProduct, 0, 0, []int{1000000000}, true},
		{10, 1000000000, nil, impl.DkSquares, 0, 1, []int{1000000000}, true},
		{10, 1000000000, nil, impl.DkTo, 1000000000, 1000000000, nil, false},
		{10, 1000000000, nil, impl.DkTo, 999999999, 999999999, []int{1000000000}, true},
		{16, 805306474, []int{3}, impl.DkTurn, 0, 805306474, []int{3}, false},
		{16, 805306474, []int{3}, impl.DkAdd, 0, 805306474, []int{3}, false},
		{10, 999999932, nil, impl.DkMake, 0, 1000000000, []int{999999932}, true},
		{10, 999999933, nil, impl.DkMake, 0, 999999933, nil, false},
		{10, 500000004, nil, impl.DkAdd, 0, 900000009, []int{500000004}, true},
		{10, 500000005, nil, impl.DkAdd, 0, 500000005, nil, false},
		// Numbers that stay, by the one deed or by the other one.
		{3, 5, nil, impl.DkSquares, 0, 5, nil, false},
		{10, 7, nil, impl.DkSquares, 0, 49, []int{7}, true},
		{10, 7, nil, impl.DkSum, 0, 7, nil, false},
		{10, 7, nil, impl.DkProduct, 0, 7, nil, false},
		{2, 22, nil, impl.DkTurn, 0, 13, []int{22}, true},
		// Numbers of before: most of them and one more, and such as are the number itself.
		{10, 12, []int{1, 2, 3, 4, 5, 6, 7}, impl.DkTurn, 0, 21, []int{1, 2, 3, 4, 5, 6, 7, 12}, true},
		{10, 12, []int{1, 2, 3, 4, 5, 6, 7, 8}, impl.DkTurn, 0, 21, []int{2, 3, 4, 5, 6, 7, 8, 12}, true},
		{10, 12, []int{1, 2, 3, 4, 5, 6, 7, 8}, impl.DkTo, 12, 12, []int{1, 2, 3, 4, 5, 6, 7, 8}, false},
		{10, 12, []int{1, 2, 3, 4, 5, 6, 7, 8}, impl.DkBack, 0, 8, []int{1, 2, 3, 4, 5, 6, 7}, true},
		{10, 12, []int{12}, impl.DkBack, 0, 12, nil, true},
		{10, 12, []int{1000000000, 0}, impl.DkBack, 0, 0, []int{1000000000}, true},
		{10, 12, []int{8, 8, 8, 8, 8, 8, 8, 8}, impl.DkTo, 9, 9, []int{8, 8, 8, 8, 8, 8, 8, 12}, true},
		// A number where none is to be named, and kinds that there are not.
		{10, 12, []int{5}, impl.DkSum, 1, 12, []int{5}, false},
		{10, 12, []int{5}, impl.DkTurn, 12, 12, []int{5}, false},
		{10, 12, []int{5}, impl.DkBack, 5, 12, []int{5}, false},
		{10, 12, []int{5}, impl.DkBack, 1, 12, []int{5}, false},
		{10, 12, []int{5}, 8, 0, 12, []int{5}, false},
		{10, 12, []int{5}, -1, 0, 12, []int{5}, false},
	}
	for _, c := range cases {
		mustDo(t, deskOf(c.base, c.now, c.past...), impl.Deed{Kind: c.kind, N: c.n}, deskOf(c.base, c.want, c.wantPast...), c.done)
	}
}

func TestP59EachDeedLeadsToItsNumber(t *testing.T) {
	done, not := map[int]int{}, map[int]int{}
	eachDesk(someWholes, func(d impl.Desk) {
		for _, a := range someDeeds() {
			want, ok := knownDo(d, a)
			mustDo(t, d, a, want, ok)
			if ok {
				done[a.Kind]++
			} else {
				not[a.Kind]++
			}
		}
		mustDo(t, d, impl.Deed{Kind: impl.DkTo, N: d.Now}, d, false)
	})
	for kind := range 8 {
		if done[kind] < 1000 || not[kind] < 20 {
			t.Fatal("too few", kind, done[kind], not[kind])
		}
	}
}

func TestP59WhatWasDoneCanBeUndone(t *testing.T) {
	undone, full := 0, 0
	eachDesk(someWholes, func(d impl.Desk) {
		for _, a := range someDeeds() {
			after, ok := impl.DeskDo(d, a)
			if !impl.DeskOk(after) || after.Base != d.Base {
				t.Fatal("no desk", d, a, after)
			}
			if !ok || a.Kind == impl.DkBack {
				continue
			}
			before, back := impl.DeskDo(after, impl.Deed{Kind: impl.DkBack})
			if !back || before.Base != d.Base || before.Now != d.Now {
				t.Fatal("not put back", d, a, before)
			}
			// If there were most of them, the first one is gone.
			want := d.Past
			if len(d.Past) == 8 {
				want = d.Past[1:]
				full++
			}
			if !slices.Equal(before.Past, want) {
				t.Fatal("other numbers of before", d, a, before)
			}
			undone++
		}
	})
	if undone < 10000 || full < 1000 {
		t.Fatal("too few", undone, full)
	}
}

func TestP59BehindSumAndTurnTheRootIsTheSame(t *testing.T) {
	done := 0
	eachDesk(someWholes, func(d impl.Desk) {
		for _, kind := range []int{impl.DkSum, impl.DkTurn} {
			after, ok := impl.DeskDo(d, impl.Deed{Kind: kind})
			if impl.RootOf(after.Now, after.Base) != impl.RootOf(d.Now, d.Base) {
				t.Fatal(d, kind, after)
			}
			if ok {
				done++
			}
		}
	})
	if done < 10000 {
		t.Fatal("too few", done)
	}
}

func TestP59WhatCannotBeDoneChangesNothing(t *testing.T) {
	eachDesk(deskWholes, func(d impl.Desk) {
		for _, a := range noDeeds() {
			mustDo(t, d, a, d, false)
		}
		if len(d.Past) == 0 {
			mustDo(t, d, impl.Deed{Kind: impl.DkBack}, d, false)
		}
	})
}

func TestP59EachNumberOfBeforeIsPutBackInTurn(t *testing.T) {
	d := deskOf(10, 0)
	for n := 1; n <= 20; n++ {
		after, ok := impl.DeskDo(d, impl.Deed{Kind: impl.DkTo, N: n})
		if !ok || len(after.Past) != min(n, 8) {
			t.Fatal(n, after, ok)
		}
		d = after
	}
	for n := 19; n >= 12; n-- {
		after, ok := impl.DeskDo(d, impl.Deed{Kind: impl.DkBack})
		if !ok || after.Now != n || len(after.Past) != n-12 {
			t.Fatal(n, after, ok)
		}
		d = after
	}
	mustDo(t, d, impl.Deed{Kind: impl.DkBack}, deskOf(10, 12), false)
}

func TestP59AtOthersNothingIsDone(t *testing.T) {
	eachBadDesk(func(d impl.Desk) {
		for _, a := range append(someDeeds(), impl.Deed{Kind: 8}, impl.Deed{Kind: -1}, impl.Deed{Kind: impl.DkSum, N: 1}) {
			if got, ok := impl.DeskDo(d, a); !nothing(got) || ok {
				t.Fatal(d, a, got, ok)
			}
		}
	})
}

func TestP59DesksAreNewMemory(t *testing.T) {
	deeds := append(someDeeds(), impl.Deed{Kind: 8}, impl.Deed{Kind: impl.DkSum, N: 1}, impl.Deed{Kind: impl.DkTo, N: -1}, impl.Deed{Kind: impl.DkBack, N: 3})
	for _, past := range somePasts() {
		for _, n := range []int{0, 7, 12, 153, 1000000000} {
			for _, a := range deeds {
				mustKeepDesk(t, deskOf(10, n, past...), func(d impl.Desk) impl.Desk {
					after, _ := impl.DeskDo(d, a)
					return after
				})
			}
		}
	}
}

// Promise 60.

func TestP60KnownRuns(t *testing.T) {
	deeds := func(text string) []impl.Deed {
		var list []impl.Deed
		for word := range strings.SplitSeq(text, " ") {
			kind := slices.Index(plainWords, word)
			if n, err := strconv.Atoi(word); err == nil {
				list = append(list, impl.Deed{Kind: impl.DkTo, N: n})
			} else {
				list = append(list, impl.Deed{Kind: kind})
			}
		}
		return list
	}
	often := func(times int, text string) []impl.Deed {
		return slices.Repeat(deeds(text), times)
	}
	mustRun(t, deskOf(10, 153), nil, deskOf(10, 153), 0)
	mustRun(t, deskOf(10, 153, 4, 5), []impl.Deed{}, deskOf(10, 153, 4, 5), 0)
	mustRun(t, deskOf(10, 153), deeds("add sum 77 turn back make"), deskOf(10, 18, 153, 504, 9), 5)
	mustRun(t, deskOf(16, 1000000000, 1), deeds("add turn product back back back back"), deskOf(16, 1), 5)
	mustRun(t, deskOf(2, 22), often(40, "make"), deskOf(2, 162, 134, 137, 140, 143, 148, 151, 156, 160), 40)
	mustRun(t, deskOf(10, 1), often(40, "add"), deskOf(10, 976071668, 661166, 1322332, 3654563, 7309126, 13528163, 49710694, 99312488, 187733887), 23)
	mustRun(t, deskOf(10, 1), often(20, "make back"), deskOf(10, 1), 40)
	mustRun(t, deskOf(10, 5, 9, 9, 9, 9, 9, 9, 9, 9), often(40, "back"), deskOf(10, 9), 8)
	mustRun(t, deskOf(10, 0), often(5, "sum product squares turn add make back 0"), deskOf(10, 0), 0)
	mustRun(t, deskOf(10, 12), []impl.Deed{{Kind: impl.DkSum, N: 1}, {Kind: impl.DkTurn}, {Kind: 9}, {Kind: impl.DkTo, N: -1}, {Kind: impl.DkTo}}, deskOf(10, 0, 12, 21), 2)
}

func TestP60RunsAreDeedsOneAfterTheOther(t *testing.T) {
	seed, done, not := 0, 0, 0
	eachDesk(deskWholes, func(d impl.Desk) {
		seed++
		list := manyDeeds(seed, seed%41)
		want, times := knownRun(d, list)
		mustRun(t, d, list, want, times)
		if got, _ := impl.DeskRun(d, list); !impl.DeskOk(got) || got.Base != d.Base {
			t.Fatal("no desk", d, list, got)
		}
		done, not = done+times, not+len(list)-times
	})
	if done < 5000 || not < 3000 {
		t.Fatal("too few", done, not)
	}
}

func TestP60InTwoPartsItIsTheSame(t *testing.T) {
	seed := 1000
	for _, past := range somePasts() {
		for _, d := range []impl.Desk{deskOf(10, 153, past...), deskOf(2, 0, past...), deskOf(16, 1000000000, past...), deskOf(7, 48, past...)} {
			seed++
			list := manyDeeds(seed, 40)
			want, times := impl.DeskRun(d, list)
			for cut := range 41 {
				half, first := impl.DeskRun(d, list[:cut])
				whole, second := impl.DeskRun(half, list[cut:])
				if !impl.DeskOk(half) || !sameDesk(whole, want) || first+second != times {
					t.Fatal(d, list, cut, half, whole, want, first, second, times)
				}
			}
		}
	}
}

func TestP60MostDeedsAndOneMore(t *testing.T) {
	for _, d := range []impl.Desk{deskOf(10, 1), deskOf(2, 0, 5), deskOf(16, 1000000000, 1, 2, 3, 4, 5, 6, 7, 8)} {
		for _, a := range append(someDeeds(), impl.Deed{Kind: 8}) {
			list := slices.Repeat([]impl.Deed{a}, 40)
			want, times := knownRun(d, list)
			mustRun(t, d, list, want, times)
			for _, long := range []int{41, 42, 80, 1000} {
				if got, n := impl.DeskRun(d, slices.Repeat([]impl.Deed{a}, long)); !nothing(got) || n != 0 {
					t.Fatal(d, a, long, got, n)
				}
			}
		}
	}
}

func TestP60NoRunsAtOthers(t *testing.T) {
	eachBadDesk(func(d impl.Desk) {
		for _, list := range [][]impl.Deed{nil, {{Kind: impl.DkTo, N: 5}}, {{Kind: impl.DkBack}}, {{Kind: impl.DkMake}, {Kind: impl.DkBack}}, {{Kind: 8}}, make([]impl.Deed, 41)} {
			if got, n := impl.DeskRun(d, list); !nothing(got) || n != 0 {
				t.Fatal(d, list, got, n)
			}
		}
	})
}

func TestP60RunsAreNewMemory(t *testing.T) {
	for _, past := range somePasts() {
		for _, list := range [][]impl.Deed{nil, {{Kind: impl.DkBack}}, {{Kind: 8}}, {{Kind: impl.DkTo, N: 77}}, {{Kind: impl.DkTo, N: 77}, {Kind: impl.DkBack}, {Kind: impl.DkBack}}, manyDeeds(5, 40)} {
			kept := slices.Clone(list)
			mustKeepDesk(t, deskOf(10, 153, past...), func(d impl.Desk) impl.Desk {
				after, _ := impl.DeskRun(d, list)
				return after
			})
			if !slices.Equal(list, kept) {
				t.Fatal("the deeds were written to", kept, list)
			}
		}
	}
}

// Promise 61.

func TestP61WhereverAJournalIsCutADeskOfBeforeIsFound(t *testing.T) {
	start := deskOf(10, 153, 4, 5)
	for seed := range 12 {
		list := textedDeeds(seed, 40-seed%3)
		text := impl.JournalText(list)
		whole := 0
		for cut := range len(text) + 1 {
			// So many lines end before the cut, wherever that is.
			ended := strings.Count(text[:cut], "\n")
			long := strings.LastIndex(text[:cut], "\n") + 1
			mustRead(t, text[:cut], list[:ended], long)
			read, n := impl.ReadJournal(text[:cut])
			if impl.JournalText(read) != text[:n] {
				t.Fatal("not what was read", text[:cut], read, n)
			}
			if n == cut {
				whole++
				mustLeadTheSame(t, start, read, text[:n])
			}
		}
		if whole != len(list)+1 {
			t.Fatal("not all lines", whole, len(list))
		}
	}
}

// mustLeadTheSame fails unless deeds, and their lines said one by one, lead from a desk to the same one.
func mustLeadTheSame(t *testing.T, d impl.Desk, list []impl.Deed, text string) {
	t.Helper()
	ran, times := impl.DeskRun(d, list)
	known, knownTimes := knownRun(d, list)
	lines := strings.Split(text, "\n")
	said, answers := impl.DeskSay(d, lines[:len(lines)-1])
	oks, nots := 0, 0
	for _, answer := range answers {
		switch answer {
		case "ok":
			oks++
		case "not":
			nots++
		}
	}
	if !sameDesk(ran, known) || !sameDesk(said, known) || times != knownTimes || oks != times || oks+nots != len(list) {
		t.Fatal(d, list, ran, said, known, times, answers)
	}
}

func TestP61KnownTexts(t *testing.T) {
	cases := []struct {
		text string
		list []impl.Deed
		long int
	}{
		{"", nil, 0}, {"\n", nil, 0}, {"sum", nil, 0}, {"to 1", nil, 0}, {" \n", nil, 0}, {"x\nsum\n", nil, 0}, {"\nsum\n", nil, 0}, {"\xff\n", nil, 0}, {"\x00sum\n", nil, 0},
		{"sum\n", []impl.Deed{{Kind: impl.DkSum}}, 4},
		{"sum\r\n", nil, 0}, {"sum \n", nil, 0}, {" sum\n", nil, 0}, {"sum\n\n", []impl.Deed{{Kind: impl.DkSum}}, 4}, {"sum\n\nsum\n", []impl.Deed{{Kind: impl.DkSum}}, 4},
		{"to 7\nback\nsu", []impl.Deed{{Kind: impl.DkTo, N: 7}, {Kind: impl.DkBack}}, 10},
		{"to 7\nback\nsum", []impl.Deed{{Kind: impl.DkTo, N: 7}, {Kind: impl.DkBack}}, 10},
		{"to 7\nback\nsum\n", []impl.Deed{{Kind: impl.DkTo, N: 7}, {Kind: impl.DkBack}, {Kind: impl.DkSum}}, 14},
		// Behind a line that is none no further ones are read.
		{"to 7\nback 0\nsum\n", []impl.Deed{{Kind: impl.DkTo, N: 7}}, 5}, {"to 7\nnumber\nsum\n", []impl.Deed{{Kind: impl.DkTo, N: 7}}, 5}, {"to 07\nsum\n", nil, 0}, {"to 1000000001\nsum\n", nil, 0},
		{"to 0\nto 1000000000\n", []impl.Deed{{}, {Kind: impl.DkTo, N: 1000000000}}, 19},
		{"to 0\nto 10000000000\n", []impl.Deed{{}}, 5},
		{"sum\nproduct\nsquares\nturn\nadd\nmake\nback\nto 12\n", []impl.Deed{{Kind: 1}, {Kind: 2}, {Kind: 3}, {Kind: 4}, {Kind: 5}, {Kind: 6}, {Kind: 7}, {Kind: 0, N: 12}}, 45},
	}
	for _, c := range cases {
		mustRead(t, c.text, c.list, c.long)
	}
}

func TestP61BehindTheDeedsAnythingMayStand(t *testing.T) {
	list := textedDeeds(77, 9)
	text := impl.JournalText(list)
	for _, line := range strayLines {
		if strings.HasPrefix(line, "sum\n") {
			continue
		}
		mustRead(t, text+line, list, len(text))
		mustRead(t, text+line+"\n", list, len(text))
		mustRead(t, text+line+"\n"+text, list, len(text))
		mustRead(t, line+"\n"+text, nil, 0)
	}
}

// Promise 62.

func TestP62TheExample(t *testing.T) {
	d, _ := impl.DeskNew(153, 10)
	got, answers := impl.DeskSay(d, []string{"digits", "root", "round", "self", "persists", "noughts", "steps", "carries 47", "one 7", "add", "number", "squares", "number"})
	want := []string{"1,5,3", "9", "89,145,42,20,4,16,37,58", "no", "2", "37", "2", "2", "1,4,2,8,5,7", "ok", "504", "ok", "41"}
	if !slices.Equal(answers, want) || !sameDesk(got, deskOf(10, 41, 153, 504)) {
		t.Fatal(got, answers)
	}
}

func TestP62LinesOneAfterTheOther(t *testing.T) {
	seed, counts := 0, map[string]int{}
	eachDesk(deskWholes, func(d impl.Desk) {
		seed++
		lines := manyLines(seed, seed%41)
		got, answers := impl.DeskSay(d, lines)
		want := d
		var wantAnswers []string
		for _, line := range lines {
			after, answer := impl.DeskLine(want, line)
			want, wantAnswers = after, append(wantAnswers, answer)
			counts[answer]++
		}
		if !sameDesk(got, want) || !slices.Equal(answers, wantAnswers) || slices.Contains(answers, "") {
			t.Fatalf("DeskSay(%v, %q) = %v %q, not %v %q", d, lines, got, answers, want, wantAnswers)
		}
		if root := impl.RootOf(got.Now, got.Base); !impl.DeskOk(got) || root < 0 || root >= got.Base {
			t.Fatalf("the root is no digit: DeskSay(%v, %q) = %v", d, lines, got)
		}
	})
	for _, answer := range []string{"ok", "not", "what", "none", "yes", "no"} {
		if counts[answer] < 50 {
			t.Fatal("too few", answer, counts[answer])
		}
	}
}

func TestP62InTwoPartsItIsTheSame(t *testing.T) {
	seed := 500
	for _, past := range somePasts() {
		for _, d := range []impl.Desk{deskOf(10, 153, past...), deskOf(2, 0, past...), deskOf(16, 1000000000, past...)} {
			seed++
			lines := manyLines(seed, 40)
			want, answers := impl.DeskSay(d, lines)
			for cut := range 41 {
				half, first := impl.DeskSay(d, lines[:cut])
				whole, second := impl.DeskSay(half, lines[cut:])
				if !impl.DeskOk(half) || !sameDesk(whole, want) || len(first) != cut || !slices.Equal(append(first, second...), answers) {
					t.Fatalf("DeskSay(%v, %q), cut at %d: %v, then %v, not %v", d, lines, cut, half, whole, want)
				}
			}
		}
	}
}

func TestP62BehindAnyLines(t *testing.T) {
	eachDesk(deskWholes, func(d impl.Desk) {
		lines := append(manyLines(d.Now%1000, 30), "carries 0", "one 1", "root")
		after, answers := impl.DeskSay(d, lines)
		if len(answers) != 33 || answers[30] != "0" || answers[31] != "none" {
			t.Fatalf("DeskSay(%v, %q): %q", d, lines, answers)
		}
		if root, err := strconv.Atoi(answers[32]); err != nil || root < 0 || root >= d.Base || root != knownRoot(after.Now, d.Base) {
			t.Fatalf("DeskSay(%v, %q): %q", d, lines, answers)
		}
	})
}

func TestP62NoLinesMostOfThemAndOneMore(t *testing.T) {
	for _, d := range []impl.Desk{deskOf(10, 153), deskOf(2, 0, 5), deskOf(16, 1000000000, 1, 2, 3, 4, 5, 6, 7, 8)} {
		for _, none := range [][]string{nil, {}} {
			if got, answers := impl.DeskSay(d, none); !sameDesk(got, d) || len(answers) != 0 {
				t.Fatal(d, got, answers)
			}
		}
		for _, line := range []string{"", "number", "make", "back", "x", "one 7"} {
			if got, answers := impl.DeskSay(d, slices.Repeat([]string{line}, 40)); !impl.DeskOk(got) || len(answers) != 40 || slices.Contains(answers, "") {
				t.Fatal(d, line, got, answers)
			}
			for _, long := range []int{41, 42, 80, 1000} {
				if got, answers := impl.DeskSay(d, slices.Repeat([]string{line}, long)); !nothing(got) || answers != nil {
					t.Fatal(d, line, long, got, answers)
				}
			}
		}
	}
}

func TestP62NothingIsSaidToOthers(t *testing.T) {
	eachBadDesk(func(d impl.Desk) {
		for _, lines := range [][]string{nil, {""}, {"number"}, {"to 5"}, {"back", "back"}, {"one 7", "carries 5"}, make([]string, 41)} {
			if got, answers := impl.DeskSay(d, lines); !nothing(got) || answers != nil {
				t.Fatal(d, lines, got, answers)
			}
		}
	})
}

func TestP62WhatIsSaidIsNewMemory(t *testing.T) {
	for _, past := range somePasts() {
		for _, lines := range [][]string{nil, {"number"}, {""}, {"to 77"}, {"back", "back"}, {"make", "digits"}, manyLines(3, 40)} {
			kept := slices.Clone(lines)
			mustKeepDesk(t, deskOf(10, 153, past...), func(d impl.Desk) impl.Desk {
				after, _ := impl.DeskSay(d, lines)
				return after
			})
			_, first := impl.DeskSay(deskOf(10, 153, past...), lines)
			want := slices.Clone(first)
			_, second := impl.DeskSay(deskOf(10, 153, past...), lines)
			behind := first[:cap(first)]
			for i := range behind {
				behind[i] = "written"
			}
			if !slices.Equal(lines, kept) || !slices.Equal(second, want) {
				t.Fatal("what was written to one result is seen elsewhere", lines, second)
			}
		}
	}
}

// Promise 63.

func TestP63KnownDesks(t *testing.T) {
	for _, d := range []impl.Desk{deskOf(2, 0), deskOf(16, 1000000000), deskOf(10, 5, 0, 1000000000), deskOf(10, 5, 1, 2, 3, 4, 5, 6, 7), deskOf(10, 5, 1, 2, 3, 4, 5, 6, 7, 8), deskOf(3, 5, 5, 5), {Base: 2}} {
		if !impl.DeskOk(d) {
			t.Fatal(d)
		}
	}
	for _, d := range []impl.Desk{{}, deskOf(1, 0), deskOf(17, 0), deskOf(10, -1), deskOf(10, 1000000001), deskOf(10, 5, -1), deskOf(10, 5, 1000000001), deskOf(10, 5, 1, 2, 3, 4, 5, 6, 7, 8, 9)} {
		if impl.DeskOk(d) {
			t.Fatal(d)
		}
	}
}

func TestP63DesksCanForget(t *testing.T) {
	eachDesk(someWholes, func(d impl.Desk) {
		if !impl.DeskOk(d) || !impl.DeskOk(deskOf(d.Base, d.Now)) || !impl.DeskOk(deskOf(d.Base, d.Now, []int{}...)) {
			t.Fatal(d)
		}
		for forgotten := range d.Past {
			if !impl.DeskOk(deskOf(d.Base, d.Now, d.Past[forgotten:]...)) {
				t.Fatal(d, forgotten)
			}
		}
	})
}

func TestP63OthersAreNoDesks(t *testing.T) {
	eachBadDesk(func(d impl.Desk) {
		if impl.DeskOk(d) {
			t.Fatal(d)
		}
	})
}

func TestP63AskedTheDeskIsKept(t *testing.T) {
	for _, past := range somePasts() {
		for _, n := range []int{0, 153, -1} {
			mustKeepDesk(t, deskOf(10, n, past...), func(d impl.Desk) impl.Desk {
				impl.DeskOk(d)
				return impl.Desk{}
			})
		}
	}
}

// Promise 64.

func TestP64NewDesksHaveOneNumber(t *testing.T) {
	eachBase(func(base int) {
		for _, n := range someWholes(base) {
			d, ok := impl.DeskNew(n, base)
			if !ok || d.Base != base || d.Now != n || len(d.Past) != 0 || !impl.DeskOk(d) {
				t.Fatal(n, base, d, ok)
			}
		}
	})
}

func TestP64NoDesksOfOthers(t *testing.T) {
	eachNoNumber(func(n int, base int) {
		if d, ok := impl.DeskNew(n, base); ok || !nothing(d) {
			t.Fatal(n, base, d, ok)
		}
	})
}

func TestP64NewDesksAreNewMemory(t *testing.T) {
	mustBeAlone(t, func() []int {
		d, _ := impl.DeskNew(153, 10)
		return d.Past
	})
}

// Promise 65.

func TestP65KnownTexts(t *testing.T) {
	cases := []struct {
		kind, n int
		want    string
	}{
		{impl.DkTo, 0, "to 0"}, {impl.DkTo, 1, "to 1"}, {impl.DkTo, 12, "to 12"}, {impl.DkTo, 999999999, "to 999999999"}, {impl.DkTo, 1000000000, "to 1000000000"},
		{impl.DkSum, 0, "sum"}, {impl.DkProduct, 0, "product"}, {impl.DkSquares, 0, "squares"}, {impl.DkTurn, 0, "turn"}, {impl.DkAdd, 0, "add"}, {impl.DkMake, 0, "make"}, {impl.DkBack, 0, "back"},
		{impl.DkTo, -1, ""}, {impl.DkTo, 1000000001, ""}, {impl.DkSum, 1, ""}, {impl.DkBack, 1, ""}, {impl.DkBack, -1, ""}, {8, 0, ""}, {-1, 0, ""}, {8, 5, ""},
	}
	for _, c := range cases {
		if got := impl.DeedText(impl.Deed{Kind: c.kind, N: c.n}); got != c.want {
			t.Fatalf("DeedText(%d, %d) = %q, not %q", c.kind, c.n, got, c.want)
		}
	}
}

func TestP65TextsOfDeedsAreRead(t *testing.T) {
	deeds := someDeeds()
	for _, n := range someWholes(10) {
		deeds = append(deeds, impl.Deed{Kind: impl.DkTo, N: n})
	}
	for _, a := range deeds {
		text := impl.DeedText(a)
		if text == "" || text != knownDeedText(a) {
			t.Fatal(a, text)
		}
		if got, ok := impl.ReadDeed(text); !ok || got != a {
			t.Fatal(a, text, got, ok)
		}
	}
}

func TestP65OthersHaveNoText(t *testing.T) {
	for _, a := range noDeeds() {
		if got := impl.DeedText(a); got != "" {
			t.Fatal(a, got)
		}
	}
}

// Promise 66.

func TestP66OtherTextsAreRefused(t *testing.T) {
	for _, s := range strayLines {
		mustNotRead(t, s)
	}
	for _, s := range noNumbers {
		mustNotRead(t, "to "+s)
		mustNotRead(t, s)
	}
	for _, s := range append(slices.Clone(plainQuestions), "carries 5", "one 7", "carries 0", "one 1") {
		mustNotRead(t, s)
	}
}

func TestP66BesideATextNothingStands(t *testing.T) {
	for _, a := range append(someDeeds(), textedDeeds(9, 200)...) {
		text := knownDeedText(a)
		for _, s := range []string{text + " ", " " + text, text + "\n", text + "\r\n", text + "\t", text + "\x00", "\x00" + text, text + "\xff", text + " 0", text + " 5", text + text, text + "\n" + text, text + "." + "0", strings.ToUpper(text), strings.ToTitle(text[:1]) + text[1:], text[1:]} {
			mustNotRead(t, s)
		}
		// Cut anywhere it is no text, but for a number that is cut, which is another one.
		for cut := range len(text) {
			got, ok := impl.ReadDeed(text[:cut])
			if want := cut > 3 && a.Kind == impl.DkTo; ok != want || ok && impl.DeedText(got) != text[:cut] {
				t.Fatal(text, cut, got, ok)
			}
		}
	}
}

func TestP66ReadTextsAreCanonical(t *testing.T) {
	pieces := []string{"", "to", "sum", "product", "squares", "turn", "add", "make", "back", " ", "0", "1", "7", "12", "000000000", "1000000000", "\n", "-", "+", "x", "\xff", "number", "T"}
	texts := regexp.MustCompile(`\A(to (0|[1-9][0-9]{0,8}|1000000000)|sum|product|squares|turn|add|make|back)\z`)
	read := 0
	four(pieces, func(s string) {
		got, ok := impl.ReadDeed(s)
		if ok != texts.MatchString(s) {
			t.Fatalf("ReadDeed(%q) = %v %v", s, got, ok)
		}
		if ok && impl.DeedText(got) != s || !ok && got != (impl.Deed{}) {
			t.Fatalf("ReadDeed(%q) = %v %v", s, got, ok)
		}
		if _, spaced := impl.ReadDeed(s + " "); spaced {
			t.Fatalf("%q is read with a space behind it", s)
		}
		if ok {
			read++
		}
	})
	if read < 40 {
		t.Fatal("too few", read)
	}
}

// four calls for all texts of four pieces.
func four(pieces []string, f func(s string)) {
	for _, a := range pieces {
		for _, b := range pieces {
			for _, c := range pieces {
				for _, d := range pieces {
					f(a + b + c + d)
				}
			}
		}
	}
}

// Promise 67.

func TestP67JournalsAreRead(t *testing.T) {
	for seed, long := range []int{0, 1, 2, 3, 7, 39, 40, 41, 100, 1000} {
		list := textedDeeds(seed, long)
		kept := slices.Clone(list)
		text := impl.JournalText(list)
		var want strings.Builder
		for _, a := range list {
			want.WriteString(knownDeedText(a) + "\n")
		}
		if text != want.String() || !slices.Equal(list, kept) {
			t.Fatalf("JournalText(%v) = %q, not %q", kept, text, want.String())
		}
		mustRead(t, text, list, len(text))
	}
	for _, a := range someDeeds() {
		text := impl.JournalText([]impl.Deed{a})
		if text != knownDeedText(a)+"\n" {
			t.Fatal(a, text)
		}
		mustRead(t, text, []impl.Deed{a}, len(text))
	}
}

func TestP67WithADeedThatHasNoTextThereIsNoJournal(t *testing.T) {
	for _, none := range noDeeds() {
		for place := range 4 {
			list := slices.Insert([]impl.Deed{{Kind: impl.DkSum}, {Kind: impl.DkTo, N: 12}, {Kind: impl.DkBack}}, place, none)
			if got := impl.JournalText(list); got != "" {
				t.Fatalf("JournalText(%v) = %q", list, got)
			}
		}
		if got := impl.JournalText([]impl.Deed{none}); got != "" {
			t.Fatalf("JournalText(%v) = %q", none, got)
		}
	}
	if got := impl.JournalText(nil); got != "" {
		t.Fatal(got)
	}
}

func TestP67ReadDeedsAreNewMemory(t *testing.T) {
	for _, text := range []string{"", "sum\n", "to 7\nback\nsum\nadd\nmake\n", "to 7\nback\nsu"} {
		first, _ := impl.ReadJournal(text)
		want := slices.Clone(first)
		second, _ := impl.ReadJournal(text)
		behind := first[:cap(first)]
		for i := range behind {
			behind[i] = impl.Deed{Kind: -77, N: -77}
		}
		if !slices.Equal(second, want) {
			t.Fatal("what was written to one result is seen in another", second, want)
		}
		mustRead(t, text, want, strings.LastIndex(text, "\n")+1)
	}
}

// Promise 68.

func TestP68KnownAnswers(t *testing.T) {
	cases := []struct {
		base, now int
		want      []string
	}{
		{10, 153, []string{"153", "1,5,3", "9", "89,145,42,20,4,16,37,58", "no", "no", "no", "2", "37", "2"}},
		{10, 0, []string{"0", "0", "0", "0", "no", "yes", "no", "0", "0", "0"}},
		{2, 0, []string{"0", "0", "0", "0", "no", "yes", "no", "0", "0", "0"}},
		{16, 0, []string{"0", "0", "0", "0", "no", "yes", "no", "0", "0", "0"}},
		{10, 1, []string{"1", "1", "1", "1", "yes", "yes", "yes", "0", "0", "0"}},
		{2, 1, []string{"1", "1", "1", "1", "yes", "yes", "yes", "0", "0", "0"}},
		{10, 7, []string{"7", "7", "7", "1", "yes", "yes", "yes", "0", "1", "0"}},
		{10, 20, []string{"20", "2,0", "2", "20,4,16,37,58,89,145,42", "no", "no", "yes", "1", "4", "1"}},
		{10, 23, []string{"23", "2,3", "5", "1", "yes", "no", "no", "1", "4", "1"}},
		{10, 196, []string{"196", "1,9,6", "7", "89,145,42,20,4,16,37,58", "no", "no", "no", "3", "47", "none"}},
		{2, 22, []string{"22", "1,0,1,1,0", "1", "1", "yes", "no", "no", "1", "19", "none"}},
		{3, 121, []string{"121", "1,1,1,1,1", "1", "5", "no", "yes", "yes", "1", "58", "0"}},
		{7, 1000000, []string{"1000000", "1,1,3,3,3,3,1,1", "4", "2,4,16,8", "no", "yes", "no", "3", "166664", "0"}},
		{16, 255, []string{"255", "15,15", "15", "1", "yes", "yes", "no", "2", "61", "0"}},
		{16, 43981, []string{"43981", "10,11,12,13", "1", "85,50,13,169,181,146", "no", "no", "no", "2", "10992", "4"}},
		{16, 805306474, []string{"805306474", "3,0,0,0,0,0,6,10", "4", "169,181,146,85,50,13", "no", "no", "no", "1", "201326617", "none"}},
		{10, 999999999, []string{"999999999", "9,9,9,9,9,9,9,9,9", "9", "16,37,58,89,145,42,20,4", "no", "yes", "no", "2", "249999989", "0"}},
		{10, 1000000000, []string{"1000000000", "1,0,0,0,0,0,0,0,0,0", "1", "1", "yes", "no", "no", "1", "249999998", "none"}},
		{16, 1000000000, []string{"1000000000", "3,11,9,10,12,10,0,0", "10", "1", "yes", "no", "yes", "1", "249999996", "none"}},
		{9, 1000000000, []string{"1000000000", "2,5,2,0,6,0,7,1,0,1", "8", "68,74", "no", "no", "no", "1", "249999996", "none"}},
	}
	for _, c := range cases {
		for place, line := range plainQuestions {
			mustAnswer(t, deskOf(c.base, c.now), line, c.want[place])
			mustAnswer(t, deskOf(c.base, c.now, 1, 2, 3, 4, 5, 6, 7, 8), line, c.want[place])
		}
	}
}

func TestP68KnownAnswersWithNumbers(t *testing.T) {
	cases := []struct {
		base, now  int
		line, want string
	}{
		{10, 153, "carries 0", "0"}, {10, 153, "carries 1", "0"}, {10, 153, "carries 47", "2"}, {10, 153, "carries 1000000000", "0"}, {10, 153, "carries 999999999", "9"},
		{10, 0, "carries 0", "0"}, {10, 0, "carries 999999999", "0"}, {10, 999999999, "carries 0", "0"}, {10, 999999999, "carries 1", "9"}, {10, 999999999, "carries 1000000000", "0"}, {10, 1000000000, "carries 1000000000", "0"},
		{2, 7, "carries 1", "3"}, {2, 7, "carries 47", "4"}, {2, 7, "carries 999999999", "9"}, {12, 11, "carries 1000000000", "1"}, {16, 255, "carries 1", "2"}, {9, 80, "carries 1", "2"},
		{10, 153, "one 0", "none"}, {10, 153, "one 1", "none"}, {10, 153, "one 2", "none"}, {10, 153, "one 3", "3"}, {10, 153, "one 5", "none"}, {10, 153, "one 7", "1,4,2,8,5,7"}, {10, 153, "one 13", "0,7,6,9,2,3"}, {10, 153, "one 200", "none"}, {10, 153, "one 201", "none"}, {10, 153, "one 1000000000", "none"},
		{2, 7, "one 2", "none"}, {2, 7, "one 3", "0,1"}, {2, 7, "one 5", "0,0,1,1"}, {2, 0, "one 7", "0,0,1"}, {2, 7, "one 1", "none"},
		{16, 255, "one 3", "5"}, {16, 255, "one 7", "2,4,9"}, {16, 255, "one 13", "1,3,11"}, {12, 11, "one 7", "1,8,6,10,3,5"}, {12, 11, "one 13", "0,11"}, {12, 11, "one 3", "none"}, {9, 80, "one 200", "0,0,3,5,7,2,1,7,5,4"}, {9, 80, "one 201", "none"}, {9, 80, "one 2", "4"},
	}
	for _, c := range cases {
		mustAnswer(t, deskOf(c.base, c.now), c.line, c.want)
		mustAnswer(t, deskOf(c.base, c.now, 0, 5), c.line, c.want)
	}
}

func TestP68EachQuestionIsAnsweredOfTheNumber(t *testing.T) {
	counts := map[string]int{}
	eachDesk(deskWholes, func(d impl.Desk) {
		for _, word := range plainQuestions {
			want := knownQuestion(d.Now, d.Base, word)
			mustAnswer(t, d, word, want)
			counts[word+" "+want]++
		}
	})
	for _, answer := range []string{"happy yes", "happy no", "palindrome yes", "palindrome no", "self yes", "self no", "steps none", "steps 0", "steps 1", "persists 0", "persists 1", "persists 2"} {
		if counts[answer] < 30 {
			t.Fatal("too few", answer, counts[answer])
		}
	}
}

func TestP68QuestionsWithANumber(t *testing.T) {
	ones := map[int][]string{}
	eachBase(func(base int) {
		for under := range 204 {
			ones[base] = append(ones[base], knownOne(under, base))
		}
	})
	eachDesk(func(int) []int { return []int{0, 1, 12, 153, 999999999, 1000000000} }, func(d impl.Desk) {
		for under, want := range ones[d.Base] {
			mustAnswer(t, d, "one "+strconv.Itoa(under), want)
		}
	})
	eachDesk(deskWholes, func(d impl.Desk) {
		for _, m := range []int{0, 1, 2, 9, 10, 47, 200, 255, d.Now, 123456789, 805306474, 999999999, 1000000000} {
			mustAnswer(t, d, "carries "+strconv.Itoa(m), strconv.Itoa(knownCarries(d.Now, m, d.Base)))
			if m > 200 {
				mustAnswer(t, d, "one "+strconv.Itoa(m), "none")
			}
		}
	})
}

func TestP68DeedsAreDone(t *testing.T) {
	oks, nots := 0, 0
	eachDesk(deskWholes, func(d impl.Desk) {
		for _, a := range append(someDeeds(), impl.Deed{Kind: impl.DkTo, N: d.Now}) {
			want, done := knownDo(d, a)
			answer := "not"
			if done {
				answer = "ok"
				oks++
			} else {
				nots++
			}
			if got, said := impl.DeskLine(d, knownDeedText(a)); said != answer || !sameDesk(got, want) {
				t.Fatalf("DeskLine(%v, %q) = %v %q, not %v %q", d, knownDeedText(a), got, said, want, answer)
			}
		}
	})
	if oks < 10000 || nots < 1500 {
		t.Fatal("too few", oks, nots)
	}
}

func TestP68QuestionsChangeNothing(t *testing.T) {
	eachDesk(deskWholes, func(d impl.Desk) {
		for _, line := range manyLines(d.Now%997, 25) {
			after, answer := impl.DeskLine(d, line)
			if !impl.DeskOk(after) || answer == "" || answer != "ok" && !sameDesk(after, d) {
				t.Fatalf("DeskLine(%v, %q) = %v %q", d, line, after, answer)
			}
		}
	})
}

func TestP68EveryOtherLineIsAnsweredByWhat(t *testing.T) {
	for _, past := range somePasts() {
		for _, d := range []impl.Desk{deskOf(10, 153, past...), deskOf(2, 0, past...), deskOf(16, 1000000000, past...)} {
			for _, line := range strayLines {
				mustAnswer(t, d, line, "what")
			}
			for _, s := range noNumbers {
				for _, word := range []string{"to ", "carries ", "one "} {
					mustAnswer(t, d, word+s, "what")
				}
				mustAnswer(t, d, s, "what")
			}
			for _, word := range append(slices.Clone(plainQuestions), plainWords[1:]...) {
				for _, line := range []string{word + " ", " " + word, word + " 0", word + " 5", word + "\n", word + "\x00", word + "s?", word + "\xff", word + word, strings.ToUpper(word), word[1:], word[:1]} {
					mustAnswer(t, d, line, "what")
				}
			}
		}
	}
}

func TestP68OthersAnswerNothing(t *testing.T) {
	lines := append([]string{"", "x", "to 5", "back", "sum", "carries 5", "one 7", "carries 0", "one 1"}, plainQuestions...)
	eachBadDesk(func(d impl.Desk) {
		for _, line := range lines {
			if got, answer := impl.DeskLine(d, line); !nothing(got) || answer != "" {
				t.Fatal(d, line, got, answer)
			}
		}
	})
}

func TestP68DesksBehindLinesAreNewMemory(t *testing.T) {
	lines := append([]string{"", "x", "to 5", "to 153", "back", "sum", "make", "carries 5", "one 7"}, plainQuestions...)
	for _, past := range somePasts() {
		for _, line := range lines {
			mustKeepDesk(t, deskOf(10, 153, past...), func(d impl.Desk) impl.Desk {
				after, _ := impl.DeskLine(d, line)
				return after
			})
		}
	}
}
