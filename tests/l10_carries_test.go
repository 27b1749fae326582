package tests

import (
	"math"
	"math/big"
	"slices"
	"strings"
	"testing"

	"loop.example/returningdigits/impl"
)

// primeBases are the bases that are prime, and otherBases are all others.
var (
	primeBases = []int{2, 3, 5, 7, 11, 13}
	otherBases = []int{4, 6, 8, 9, 10, 12, 14, 15, 16}
)

// badChoices are no numbers of things from which one chooses: just outside of both bounds, and far from them.
var badChoices = []int{math.MinInt, math.MinInt + 1, -1 << 32, -201, -200, -10, -2, -1, 201, 202, 256, 257, 1000, 1000000000, 1000000001, 1 << 32, 1<<32 + 10, math.MaxInt - 1, math.MaxInt}

// knownFactors are the primes of each base, each with how often it divides the base.
func knownFactors(base int) map[int]int {
	return map[int]map[int]int{
		2: {2: 1}, 3: {3: 1}, 4: {2: 2}, 5: {5: 1}, 6: {2: 1, 3: 1}, 7: {7: 1}, 8: {2: 3}, 9: {3: 2}, 10: {2: 1, 5: 1},
		11: {11: 1}, 12: {2: 2, 3: 1}, 13: {13: 1}, 14: {2: 1, 7: 1}, 15: {3: 1, 5: 1}, 16: {2: 4},
	}[base]
}

// knownCarries are the places at which what both numbers have up to there, together, needs one place more.
func knownCarries(n int, m int, base int) int {
	carries := 0
	for power := base; power <= 16*impl.MaxWhole; power *= base {
		if n%power+m%power >= power {
			carries++
		}
	}
	return carries
}

// knownOften is how often a number divides another one that is not 0.
func knownOften(divisor int, n int) int {
	often := 0
	for rest := n % divisor; rest == 0; rest = n % divisor {
		n /= divisor
		often++
	}
	return often
}

// knownProductOften counts the multiples of the prime, of its square, and so on, up to a number.
func knownProductOften(n int, p int) int {
	often := 0
	for power := p; power <= n; power *= p {
		often += n / power
	}
	return often
}

// bigOften is how often a prime divides a number that is not 0, however great it is.
func bigOften(n *big.Int, p int) int {
	often, prime, rest := 0, big.NewInt(int64(p)), new(big.Int)
	for left := new(big.Int).Set(n); ; often++ {
		left.QuoRem(left, prime, rest)
		if rest.Sign() != 0 {
			return often
		}
	}
}

// bigRest is what a number leaves by a prime, however great it is.
func bigRest(n *big.Int, p int) int {
	return int(new(big.Int).Mod(n, big.NewInt(int64(p))).Int64())
}

// pairs are all pairs of two rows.
func pairs(first []int, second []int, f func(n int, m int)) {
	for _, n := range first {
		for _, m := range second {
			f(n, m)
		}
	}
}

// carryWholes are numbers that are added: small ones, those beside powers of the base, some between, and the greatest ones.
func carryWholes(base int) []int {
	var list []int
	for place, n := range someWholes(base) {
		if n <= 2*base+3 || place%17 == 0 || n >= 999999998 {
			list = append(list, n)
		}
	}
	for power := base; power <= impl.MaxWhole; power *= base {
		list = append(list, power-1, power)
	}
	slices.Sort(list)
	return slices.Compact(list)
}

// eachPrime calls for each prime base there is.
func eachPrime(f func(p int)) {
	for _, p := range primeBases {
		f(p)
	}
}

// eachChoice calls for each prime, each number of things and each choice there is, with the number of ways as the standard library reckons it.
func eachChoice(f func(n int, k int, p int, ways *big.Int)) {
	for n := range impl.MaxChoice + 1 {
		for k := range n + 1 {
			ways := new(big.Int).Binomial(int64(n), int64(k))
			eachPrime(func(p int) { f(n, k, p, ways) })
		}
	}
}

// eachNoPrime calls for all that is no prime base: bases that are not prime, and no bases, primes among these.
func eachNoPrime(f func(p int)) {
	for _, p := range append(slices.Concat(otherBases, badBases), -13, -7, -5, -3, 19, 23, 31, 101, 199, 256+2, 65536+7, 1<<32+2, 1<<32+13) {
		f(p)
	}
}

// eachNoChoice calls for numbers of things, choices and primes of which at least one is none.
func eachNoChoice(f func(n int, k int, p int)) {
	eachPrime(func(p int) {
		for _, n := range badChoices {
			for _, k := range []int{math.MinInt, -1, 0, 1, 2, 10, 100, 200, n / 2, n - 1, n, math.MaxInt} {
				f(n, k, p)
			}
		}
		for n := range impl.MaxChoice + 1 {
			for _, k := range []int{math.MinInt, -1 << 32, -1000000000, -n - 1, -p, -2, -1, n + 1, n + 2, n + p, 2*n + 1, 201, 1000000000, 1<<32 + n/2, math.MaxInt} {
				f(n, k, p)
			}
		}
	})
	eachNoPrime(func(p int) {
		for _, n := range []int{-1, 0, 1, 2, 3, 4, 5, 9, 10, 16, 100, 199, 200, 201} {
			for _, k := range []int{-1, 0, 1, 2, n / 2, n - 1, n, n + 1} {
				f(n, k, p)
			}
		}
	})
}

// mustCarry fails unless two numbers, and both exchanged, have so many carries.
func mustCarry(t *testing.T, n int, m int, base int, want int) {
	t.Helper()
	if got, other := impl.CarriesOf(n, m, base), impl.CarriesOf(m, n, base); got != want || other != want {
		t.Fatalf("CarriesOf(%d, %d, %d) = %d, and exchanged %d, not %d", n, m, base, got, other, want)
	}
}

// mustRefuseByPrimes fails unless a function of a number and a prime answers -1 to all that are none.
func mustRefuseByPrimes(t *testing.T, name string, f func(n int, p int) int) {
	t.Helper()
	mustRefuse(t, name, f)
	eachNoPrime(func(p int) {
		for _, n := range []int{-1, 0, 1, 2, 4, 9, 10, 16, 100, 200, 999999999, 1000000000, 1000000001} {
			if got := f(n, p); got != -1 {
				t.Fatalf("%s(%d, %d) = %d, not -1", name, n, p, got)
			}
		}
	})
}

func TestChoiceBound(t *testing.T) {
	if impl.MaxChoice != 200 {
		t.Fatal(impl.MaxChoice)
	}
}

// Promise 47.

func TestP47KnownCarries(t *testing.T) {
	cases := []struct{ n, m, base, want int }{
		{0, 0, 2, 0}, {0, 0, 10, 0}, {0, 0, 16, 0}, {0, 9, 10, 0}, {0, 1000000000, 10, 0}, {0, 1000000000, 2, 0}, {0, 999999999, 16, 0},
		// Numbers of one digit.
		{1, 1, 2, 1}, {1, 0, 2, 0}, {4, 5, 10, 0}, {5, 5, 10, 1}, {9, 1, 10, 1}, {9, 9, 10, 1}, {8, 1, 10, 0}, {7, 8, 16, 0}, {8, 8, 16, 1}, {15, 1, 16, 1}, {15, 15, 16, 1},
		// Without carries, with some, and with those that are carried because of one just before.
		{12, 34, 10, 0}, {50, 49, 10, 0}, {123456789, 876543210, 10, 0}, {90, 9, 10, 0}, {58, 67, 10, 2}, {58, 61, 10, 1}, {19, 1, 10, 1}, {95, 5, 10, 2}, {45, 55, 10, 2}, {909, 101, 10, 2}, {909, 191, 10, 3}, {505, 505, 10, 2}, {1, 1999, 10, 3}, {900, 99, 10, 0},
		// One number is longer than the other one, and what is carried goes on in it.
		{1, 999, 10, 3}, {1, 9999, 10, 4}, {1, 999999999, 10, 9}, {1, 899999999, 10, 8}, {1, 536870911, 2, 29}, {1, 0xfffffff, 16, 7}, {1, 0xfeffff, 16, 4},
		{5, 10, 2, 0}, {7, 7, 2, 3}, {5, 5, 2, 2}, {536870911, 536870911, 2, 29}, {0x55555, 0xaaaaa, 2, 0},
		// Sums of MaxWhole, above it, and of both greatest numbers.
		{500000000, 500000000, 10, 1}, {999999999, 999999999, 10, 9}, {999999999, 1000000000, 10, 0}, {1000000000, 1000000000, 10, 0}, {600000000, 700000000, 10, 1},
		{1000000000, 1000000000, 2, 13}, {1000000000, 1000000000, 16, 5}, {999999999, 999999999, 16, 7}, {1000000000, 1, 16, 0}, {1000000000, 1, 10, 0},
	}
	for _, c := range cases {
		mustCarry(t, c.n, c.m, c.base, c.want)
	}
}

func TestP47CarriesAreToldBySumsOfDigits(t *testing.T) {
	eachBase(func(base int) {
		list := carryWholes(base)
		small, great := 0, 0
		pairs(list, list, func(n int, m int) {
			got := impl.CarriesOf(n, m, base)
			if got != knownCarries(n, m, base) || got != impl.CarriesOf(m, n, base) {
				t.Fatal(n, m, base, got)
			}
			// The standard library writes the digits of sums above MaxWhole, too.
			if knownSum(n, base)+knownSum(m, base)-knownSum(n+m, base) != got*(base-1) {
				t.Fatal("the sums of digits", n, m, base, got)
			}
			if n+m > impl.MaxWhole {
				great++
				return
			}
			small++
			if impl.SumOf(n, base)+impl.SumOf(m, base)-impl.SumOf(n+m, base) != got*(base-1) {
				t.Fatal("SumOf", n, m, base, got)
			}
		})
		if small < 1000 || great < 50 {
			t.Fatal("too few are tested", base, small, great)
		}
	})
}

func TestP47WithNoughtNothingIsCarried(t *testing.T) {
	eachBase(func(base int) {
		for _, n := range someWholes(base) {
			mustCarry(t, n, 0, base, 0)
		}
	})
}

func TestP47NothingOrEachDigitIsCarried(t *testing.T) {
	eachBase(func(base int) {
		for _, n := range someWholes(base) {
			long := len(knownDigits(n, base))
			// What is lacking to digits one less than the base alone needs no carries; with 1 more each digit from the last one on that is not 0 is carried.
			lacking := beyond(long, base) - 1 - n
			if lacking > impl.MaxWhole {
				continue
			}
			mustCarry(t, n, lacking, base, 0)
			if n%base != 0 && lacking < impl.MaxWhole {
				mustCarry(t, n, lacking+1, base, long)
			}
		}
		for long := 1; beyond(long, base)-1 <= impl.MaxWhole; long++ {
			greatest := beyond(long, base) - 1
			mustCarry(t, greatest, 1, base, long)
			mustCarry(t, greatest, greatest, base, long)
			// Digits 1 alone, and the greatest ones but for the last: all but the last one are carried on.
			mustCarry(t, greatest/(base-1), greatest-1, base, long-1)
		}
	})
}

func TestP47NoCarriesOfOthers(t *testing.T) {
	for _, other := range []int{0, 1, 9, 200, 999999999, 1000000000} {
		mustRefuse(t, "CarriesOf, the first number", func(n int, base int) int { return impl.CarriesOf(n, other, base) })
		mustRefuse(t, "CarriesOf, the second number", func(n int, base int) int { return impl.CarriesOf(other, n, base) })
	}
	mustRefuse(t, "CarriesOf, both numbers", func(n int, base int) int { return impl.CarriesOf(n, n, base) })
}

// Promise 48.

func TestP48PrimesAreBases(t *testing.T) {
	for p := -300; p <= 300; p++ {
		got := impl.PrimeBaseOk(p)
		if got != slices.Contains(primeBases, p) || got != (impl.BaseOk(p) && knownPrime(p)) {
			t.Fatal(p, got)
		}
		if got && impl.PrimesOf(p) != 1 {
			t.Fatal("not one prime", p)
		}
	}
	if !impl.PrimeBaseOk(2) {
		t.Fatal(2)
	}
}

func TestP48OthersAreNoPrimeBases(t *testing.T) {
	eachNoPrime(func(p int) {
		if impl.PrimeBaseOk(p) {
			t.Fatal(p)
		}
	})
}

// Promise 49.

func TestP49KnownProducts(t *testing.T) {
	cases := []struct{ n, p, want int }{
		{0, 2, 0}, {0, 13, 0}, {1, 2, 0}, {1, 13, 0}, {2, 2, 1}, {2, 3, 0}, {3, 2, 1}, {4, 2, 3}, {8, 2, 7}, {10, 2, 8}, {10, 3, 4}, {10, 5, 2}, {10, 7, 1}, {10, 11, 0},
		{12, 13, 0}, {13, 13, 1}, {14, 13, 1}, {168, 13, 12}, {169, 13, 14}, {26, 3, 10}, {27, 3, 13}, {24, 5, 4}, {25, 5, 6}, {100, 5, 24}, {100, 2, 97}, {200, 2, 197}, {200, 5, 49}, {1000, 5, 249},
		{536870911, 2, 536870882}, {536870912, 2, 536870911}, {1000000000, 2, 999999987}, {1000000000, 5, 249999998}, {999999999, 5, 249999989},
	}
	for _, c := range cases {
		if got := impl.ProductOften(c.n, c.p); got != c.want {
			t.Fatalf("ProductOften(%d, %d) = %d, not %d", c.n, c.p, got, c.want)
		}
	}
}

func TestP49ProductsAreToldBySumsOfDigits(t *testing.T) {
	eachPrime(func(p int) {
		for _, n := range someWholes(p) {
			got := impl.ProductOften(n, p)
			if got != knownProductOften(n, p) || got*(p-1) != n-impl.SumOf(n, p) {
				t.Fatal(n, p, got)
			}
			if n < impl.MaxWhole && impl.ProductOften(n+1, p) != got+knownOften(p, n+1) {
				t.Fatal("of one number more", n, p, got)
			}
		}
	})
}

func TestP49ProductsAreDividedSoOften(t *testing.T) {
	product := big.NewInt(1)
	for n := range 400 {
		product.Mul(product, big.NewInt(max(int64(n), 1)))
		eachPrime(func(p int) {
			if got := impl.ProductOften(n, p); got != bigOften(product, p) {
				t.Fatal(n, p, got)
			}
		})
	}
}

func TestP49NoProductsOfOthers(t *testing.T) {
	mustRefuseByPrimes(t, "ProductOften", impl.ProductOften)
}

// Promise 50.

func TestP50KnownChoices(t *testing.T) {
	cases := []struct{ n, k, p, want int }{
		{0, 0, 2, 0}, {0, 0, 13, 0}, {1, 0, 2, 0}, {1, 1, 2, 0}, {2, 1, 2, 1}, {2, 1, 3, 0}, {4, 2, 2, 1}, {4, 2, 3, 1}, {4, 1, 2, 2}, {8, 4, 2, 1}, {8, 1, 2, 3},
		{10, 5, 2, 2}, {10, 5, 3, 2}, {10, 5, 5, 0}, {10, 5, 7, 1}, {10, 5, 11, 0}, {12, 6, 11, 1}, {12, 6, 13, 0}, {13, 1, 13, 1}, {169, 1, 13, 2}, {169, 13, 13, 1}, {9, 3, 3, 1}, {9, 1, 3, 2},
		{200, 0, 2, 0}, {200, 200, 2, 0}, {200, 1, 2, 3}, {200, 199, 5, 2}, {200, 100, 2, 3}, {200, 100, 3, 1}, {200, 100, 5, 1}, {128, 1, 2, 7}, {128, 64, 2, 1}, {127, 63, 2, 0}, {125, 1, 5, 3}, {125, 25, 5, 1}, {125, 124, 5, 3},
	}
	for _, c := range cases {
		if got := impl.ChoiceOften(c.n, c.k, c.p); got != c.want {
			t.Fatalf("ChoiceOften(%d, %d, %d) = %d, not %d", c.n, c.k, c.p, got, c.want)
		}
	}
}

func TestP50CarriesCountPrimesOfChoices(t *testing.T) {
	eachChoice(func(n int, k int, p int, ways *big.Int) {
		got := impl.ChoiceOften(n, k, p)
		if got != bigOften(ways, p) {
			t.Fatal(n, k, p, got)
		}
		if got != impl.ProductOften(n, p)-impl.ProductOften(k, p)-impl.ProductOften(n-k, p) {
			t.Fatal("the products", n, k, p, got)
		}
		if (got == 0) != (impl.ChoiceRest(n, k, p) != 0) {
			t.Fatal("the rest", n, k, p, got)
		}
		if got != impl.ChoiceOften(n, n-k, p) {
			t.Fatal("those that are left", n, k, p, got)
		}
	})
}

func TestP50NoneAndAllAreChosenInOneWay(t *testing.T) {
	eachPrime(func(p int) {
		for n := range impl.MaxChoice + 1 {
			for _, k := range []int{0, n} {
				if often, rest := impl.ChoiceOften(n, k, p), impl.ChoiceRest(n, k, p); often != 0 || rest != 1 {
					t.Fatal(n, k, p, often, rest)
				}
			}
			// One is chosen in as many ways as there are things.
			if n > 0 && (impl.ChoiceOften(n, 1, p) != knownOften(p, n) || impl.ChoiceRest(n, 1, p) != n%p) {
				t.Fatal("one", n, p)
			}
		}
	})
}

func TestP50NoChoicesOfOthers(t *testing.T) {
	eachNoChoice(func(n int, k int, p int) {
		if got := impl.ChoiceOften(n, k, p); got != -1 {
			t.Fatalf("ChoiceOften(%d, %d, %d) = %d, not -1", n, k, p, got)
		}
	})
}

// Promise 51.

func TestP51KnownRests(t *testing.T) {
	cases := []struct{ n, k, p, want int }{
		{0, 0, 2, 1}, {0, 0, 13, 1}, {1, 0, 2, 1}, {1, 1, 2, 1}, {2, 1, 2, 0}, {2, 1, 3, 2}, {3, 1, 2, 1}, {4, 2, 2, 0}, {4, 2, 3, 0}, {4, 2, 5, 1}, {4, 2, 7, 6}, {4, 2, 11, 6},
		{10, 5, 2, 0}, {10, 5, 3, 0}, {10, 5, 5, 2}, {10, 5, 7, 0}, {10, 5, 11, 10}, {10, 5, 13, 5}, {12, 6, 13, 1}, {12, 6, 11, 0}, {12, 5, 13, 12}, {11, 5, 13, 7}, {10, 3, 7, 1}, {9, 3, 3, 0}, {9, 4, 3, 0},
		// In the base 5, 20 is 40, and 7 is 12, the last digit of which is the greater one; in the base 3, 21 is 210, and 3 is 010, of which no digit is.
		{20, 7, 5, 0}, {21, 3, 3, 1}, {21, 2, 3, 0}, {14, 1, 13, 1}, {14, 2, 13, 0}, {14, 13, 13, 1}, {27, 14, 13, 2}, {26, 13, 13, 2},
		{200, 0, 2, 1}, {200, 200, 13, 1}, {200, 100, 2, 0}, {200, 100, 3, 0}, {200, 100, 5, 0}, {200, 1, 7, 4}, {200, 199, 7, 4}, {199, 99, 2, 0}, {127, 63, 2, 1}, {200, 8, 2, 1}, {168, 90, 13, 1},
	}
	for _, c := range cases {
		if got := impl.ChoiceRest(c.n, c.k, c.p); got != c.want {
			t.Fatalf("ChoiceRest(%d, %d, %d) = %d, not %d", c.n, c.k, c.p, got, c.want)
		}
	}
}

func TestP51ChoicesLeaveWhatChoicesOfDigitsLeave(t *testing.T) {
	greater := 0
	eachChoice(func(n int, k int, p int, ways *big.Int) {
		got := impl.ChoiceRest(n, k, p)
		if got != bigRest(ways, p) || got != impl.ChoiceRest(n, n-k, p) {
			t.Fatal(n, k, p, got)
		}
		if k%p > n%p {
			greater++
			if got != 0 {
				t.Fatal("the last digit is greater", n, k, p, got)
			}
			return
		}
		// What is in front of those that are chosen may not be more than what is in front of all, for their last digit is not the greater one.
		if got != impl.ChoiceRest(n%p, k%p, p)*impl.ChoiceRest(n/p, k/p, p)%p {
			t.Fatal("the last digits, and what is in front", n, k, p, got)
		}
	})
	if greater == 0 {
		t.Fatal("no greater digit was asked")
	}
}

func TestP51ChoicesFromOneThingFewer(t *testing.T) {
	eachPrime(func(p int) {
		for n := 2; n <= impl.MaxChoice; n++ {
			for k := 1; k < n; k++ {
				if got := impl.ChoiceRest(n, k, p); got != (impl.ChoiceRest(n-1, k-1, p)+impl.ChoiceRest(n-1, k, p))%p {
					t.Fatal(n, k, p, got)
				}
			}
		}
	})
}

func TestP51NoRestsOfOthers(t *testing.T) {
	eachNoChoice(func(n int, k int, p int) {
		if got := impl.ChoiceRest(n, k, p); got != -1 {
			t.Fatalf("ChoiceRest(%d, %d, %d) = %d, not -1", n, k, p, got)
		}
	})
}

// Promise 52.

func TestP52KnownNoughts(t *testing.T) {
	cases := []struct{ n, base, want int }{
		{0, 2, 0}, {0, 10, 0}, {0, 16, 0}, {1, 2, 0}, {1, 16, 0}, {2, 2, 1}, {3, 2, 1}, {4, 2, 3}, {4, 10, 0}, {5, 10, 1}, {9, 10, 1}, {10, 10, 2}, {24, 10, 4}, {25, 10, 6}, {100, 10, 24}, {1000, 10, 249}, {153, 10, 37},
		// A prime that the base has more than once.
		{3, 4, 0}, {4, 4, 1}, {6, 4, 2}, {10, 4, 4}, {4, 8, 1}, {10, 8, 2}, {6, 9, 1}, {10, 9, 2}, {5, 16, 0}, {6, 16, 1}, {10, 16, 2}, {12, 16, 2}, {100, 16, 24},
		// Two primes: in the base 12, which has 2 twice, 2 tells fewer of 3, and 3 tells fewer of 8.
		{8, 12, 2}, {2, 6, 0}, {3, 6, 1}, {10, 6, 4}, {3, 12, 0}, {4, 12, 1}, {10, 12, 4}, {100, 12, 48}, {6, 12, 2}, {9, 12, 3}, {18, 12, 8}, {27, 12, 11}, {7, 14, 1}, {100, 14, 16}, {5, 15, 1}, {100, 15, 24}, {13, 13, 1}, {12, 13, 0},
		{1000000000, 10, 249999998}, {999999999, 10, 249999989}, {1000000000, 2, 999999987}, {1000000000, 4, 499999993}, {1000000000, 8, 333333329}, {1000000000, 16, 249999996}, {1000000000, 5, 249999998},
	}
	for _, c := range cases {
		if got := impl.NoughtsAtEnd(c.n, c.base); got != c.want {
			t.Fatalf("NoughtsAtEnd(%d, %d) = %d, not %d", c.n, c.base, got, c.want)
		}
	}
}

func TestP52NoughtsAreThoseOfTheWrittenProduct(t *testing.T) {
	product := big.NewInt(1)
	for n := range 260 {
		product.Mul(product, big.NewInt(max(int64(n), 1)))
		eachBase(func(base int) {
			text := product.Text(base)
			if got := impl.NoughtsAtEnd(n, base); got != len(text)-len(strings.TrimRight(text, "0")) {
				t.Fatal(n, base, got)
			}
		})
	}
}

func TestP52NoughtsAtTheEndGrow(t *testing.T) {
	eachBase(func(base int) {
		for _, n := range someWholes(base) {
			want := n
			for p, often := range knownFactors(base) {
				want = min(want, knownProductOften(n, p)/often)
			}
			got := impl.NoughtsAtEnd(n, base)
			if got != want {
				t.Fatal(n, base, got, want)
			}
			if n < impl.MaxWhole && impl.NoughtsAtEnd(n+1, base) < got {
				t.Fatal("of one number more", n, base, got)
			}
			if slices.Contains(primeBases, base) && got != impl.ProductOften(n, base) {
				t.Fatal("a prime base", n, base, got)
			}
			if base == 10 && got != impl.ProductOften(n, 5) {
				t.Fatal("the base 10", n, got)
			}
		}
	})
}

func TestP52NoNoughtsOfOthers(t *testing.T) {
	mustRefuse(t, "NoughtsAtEnd", impl.NoughtsAtEnd)
}
