package tests

import (
	"testing"

	"loop.example/returningdigits/impl"
)

// knownSum is the sum of the digits that the standard library writes.
func knownSum(n int, base int) int {
	sum := 0
	for _, digit := range knownDigits(n, base) {
		sum += digit
	}
	return sum
}

// knownRoot is the root as the rest by one less than the base tells it.
func knownRoot(n int, base int) int {
	if n == 0 {
		return 0
	}
	return 1 + (n-1)%(base-1)
}

// multiplesOfOneLess are multiples of one less than the base, from 0 on: small ones, those around its powers, and the greatest one.
func multiplesOfOneLess(base int) []int {
	one := base - 1
	list := []int{0, one, 2 * one, 3 * one, one * one, base * one, impl.MaxWhole - impl.MaxWhole%one}
	for power := base; power <= impl.MaxWhole; power *= base {
		list = append(list, power-1)
	}
	return list
}

// Promise 7.

func TestP7KnownRoots(t *testing.T) {
	cases := []struct{ n, base, want int }{
		{0, 2, 0}, {0, 10, 0}, {0, 16, 0}, {1, 2, 1}, {2, 2, 1}, {7, 2, 1}, {1000000000, 2, 1},
		{1, 3, 1}, {2, 3, 2}, {3, 3, 1}, {4, 3, 2}, {1000000000, 3, 2},
		{9, 10, 9}, {10, 10, 1}, {18, 10, 9}, {19, 10, 1}, {99, 10, 9}, {987654, 10, 3},
		{999999999, 10, 9}, {1000000000, 10, 1},
		{15, 16, 15}, {16, 16, 1}, {30, 16, 15}, {255, 16, 15}, {1000000000, 16, 10},
	}
	for _, c := range cases {
		if got := impl.RootOf(c.n, c.base); got != c.want {
			t.Fatalf("RootOf(%d, %d) = %d, not %d", c.n, c.base, got, c.want)
		}
	}
}

func TestP7RootsAreRests(t *testing.T) {
	eachBase(func(base int) {
		for _, n := range someWholes(base) {
			root := impl.RootOf(n, base)
			if root != knownRoot(n, base) || root < 0 || root >= base || (root == 0) != (n == 0) {
				t.Fatal(n, base, root)
			}
			if n < base && root != n {
				t.Fatal("not the one digit", n, base, root)
			}
		}
	})
}

func TestP7RootsOfMultiples(t *testing.T) {
	eachBase(func(base int) {
		for _, n := range multiplesOfOneLess(base) {
			want := base - 1
			if n == 0 {
				want = 0
			}
			if got := impl.RootOf(n, base); got != want {
				t.Fatalf("RootOf(%d, %d) = %d, not %d", n, base, got, want)
			}
		}
	})
}

func TestP7RootsOfSumsAreRootsOfRoots(t *testing.T) {
	eachBase(func(base int) {
		wholes := append(multiplesOfOneLess(base), 1, base, base+1, 305, 65535, 123456789, 499999999, 500000000, impl.MaxWhole)
		for _, n := range wholes {
			for _, m := range wholes {
				if n+m > impl.MaxWhole {
					continue
				}
				sum, roots := impl.RootOf(n+m, base), impl.RootOf(impl.RootOf(n, base)+impl.RootOf(m, base), base)
				if sum != roots {
					t.Fatal(n, m, base, sum, roots)
				}
			}
		}
	})
}

func TestP7NoRootOfOthers(t *testing.T) {
	mustRefuse(t, "RootOf", impl.RootOf)
}

// Promise 8.

func TestP8KnownSteps(t *testing.T) {
	cases := []struct{ n, base, want int }{
		{0, 2, 0}, {0, 10, 0}, {0, 16, 0}, {1, 2, 0}, {2, 2, 1}, {3, 2, 2}, {7, 2, 3}, {127, 2, 4},
		{9, 10, 0}, {10, 10, 1}, {18, 10, 1}, {19, 10, 2}, {199, 10, 3}, {987654, 10, 3},
		{999999999, 10, 2}, {1000000000, 10, 1},
		{15, 16, 0}, {16, 16, 1}, {255, 16, 2}, {1000000000, 16, 2}, {1000000000, 2, 4},
	}
	for _, c := range cases {
		if got := impl.RootSteps(c.n, c.base); got != c.want {
			t.Fatalf("RootSteps(%d, %d) = %d, not %d", c.n, c.base, got, c.want)
		}
	}
}

func TestP8EachStepIsASum(t *testing.T) {
	eachBase(func(base int) {
		for _, n := range someWholes(base) {
			steps, want := impl.RootSteps(n, base), 0
			for left := n; left >= base; left = knownSum(left, base) {
				want++
			}
			if steps != want || (steps == 0) != (impl.LongOf(n, base) == 1) {
				t.Fatal(n, base, steps, want)
			}
			if steps > 0 && steps != impl.RootSteps(impl.SumOf(n, base), base)+1 {
				t.Fatal(n, base, steps)
			}
		}
	})
}

func TestP8AtMostFiveSteps(t *testing.T) {
	// No sum of digits is more than 500: all steps of any number but its first one are those of one of these sums.
	eachBase(func(base int) {
		for sum := range 501 {
			if steps := impl.RootSteps(sum, base); steps < 0 || steps > 4 {
				t.Fatal(sum, base, steps)
			}
		}
		for _, n := range someWholes(base) {
			if steps := impl.RootSteps(n, base); steps < 0 || steps > 5 || impl.SumOf(n, base) > 500 {
				t.Fatal(n, base, steps)
			}
		}
	})
}

func TestP8NoStepsOfOthers(t *testing.T) {
	mustRefuse(t, "RootSteps", impl.RootSteps)
}

// Promise 9.

func TestP9KnownTurns(t *testing.T) {
	cases := []struct{ n, base, want int }{
		{0, 2, 0}, {0, 10, 0}, {0, 16, 0}, {1, 2, 1}, {2, 2, -1}, {3, 2, 0}, {5, 2, 2}, {10, 2, -2},
		{9, 10, 9}, {10, 10, -1}, {11, 10, 0}, {90, 10, -9}, {918, 10, 16}, {1234, 10, 2}, {4321, 10, -2},
		{909090909, 10, 45}, {90909090, 10, -36}, {999999999, 10, 9}, {1000000000, 10, -1},
		{15, 16, 15}, {16, 16, -1}, {255, 16, 0}, {240, 16, -15}, {1000000000, 16, 7},
	}
	for _, c := range cases {
		if got, ok := impl.TurnsOf(c.n, c.base); got != c.want || !ok {
			t.Fatalf("TurnsOf(%d, %d) = %d %v, not %d", c.n, c.base, got, ok, c.want)
		}
	}
}

func TestP9TurnsTellTheRest(t *testing.T) {
	eachBase(func(base int) {
		for _, n := range append(someWholes(base), multiplesOfOneLess(base)...) {
			got, ok := impl.TurnsOf(n, base)
			want := 0
			for _, digit := range knownDigits(n, base) {
				want = digit - want // so that each next digit turns those before
			}
			if got != want || !ok {
				t.Fatal(n, base, got, ok, want)
			}
			if (n-got)%(base+1) != 0 || (impl.SumOf(n, base)-got)%2 != 0 {
				t.Fatal(n, base, got)
			}
		}
	})
}

func TestP9NoTurnsOfOthers(t *testing.T) {
	refuse := func(n int, base int) {
		if got, ok := impl.TurnsOf(n, base); got != 0 || ok {
			t.Fatalf("TurnsOf(%d, %d) = %d %v, not 0 false", n, base, got, ok)
		}
	}
	eachBase(func(base int) {
		for _, n := range badWholes {
			refuse(n, base)
		}
	})
	for _, base := range badBases {
		for _, n := range []int{-1, 0, 1, 5, 12, 1000000000, 1000000001} {
			refuse(n, base)
		}
	}
}

// Promise 10.

// partsOf are numbers of which pairs are multiplied: around the base, great ones, and multiples of one less than the base.
func partsOf(base int) []int {
	return append(multiplesOfOneLess(base), 0, 1, 2, 3, base-1, base, base+1, 123, 456, 31622, 65537, 999999999, impl.MaxWhole)
}

func TestP10KnownProducts(t *testing.T) {
	cases := []struct {
		product, n, m, base int
		want                bool
	}{
		{56088, 123, 456, 10, true},
		{56087, 123, 456, 10, false},
		{56097, 123, 456, 10, true}, // 9 more: the roots do not tell
		{0, 0, 0, 10, true},
		{0, 0, 7, 10, true},
		{0, 3, 3, 10, false},
		{9, 3, 3, 10, true},
		{18, 3, 3, 10, true},
		{9, 0, 7, 10, false},
		{9, 7, 0, 10, false},
		{81, 9, 9, 10, true},
		{1, 1, 1, 2, true},
		{5, 3, 7, 2, true}, // in the base 2 all but 0 have the root 1
		{0, 3, 7, 2, false},
		{5, 0, 7, 2, false},
		{0, 0, 7, 2, true},
		{225, 15, 15, 16, true},
		{30, 15, 15, 16, true},
		{0, 15, 15, 16, false},
		{1000000000, 1000000000, 1000000000, 10, true},
		{999999999, 1000000000, 1000000000, 10, false},
		{1000000000, 1000000000, 1, 16, true},
		{1000000000, 1, 1000000000, 16, true},
		{1000000000, 100000, 10000, 7, true},
	}
	for _, c := range cases {
		if got := impl.CouldBe(c.product, c.n, c.m, c.base); got != c.want {
			t.Fatalf("CouldBe(%d, %d, %d, %d) = %v", c.product, c.n, c.m, c.base, got)
		}
	}
}

func TestP10TrueProductsCouldBe(t *testing.T) {
	eachBase(func(base int) {
		for _, n := range partsOf(base) {
			for _, m := range partsOf(base) {
				if n*m <= impl.MaxWhole && !impl.CouldBe(n*m, n, m, base) {
					t.Fatal(n, m, base)
				}
			}
		}
	})
}

func TestP10CouldBeTellsTheRest(t *testing.T) {
	eachBase(func(base int) {
		for _, n := range partsOf(base) {
			for _, m := range partsOf(base) {
				for _, product := range append(partsOf(base), 4, 5, 6, 7, 8, 9, 10, 11, 12, 13, 14) {
					sameRest := product%(base-1) == n*m%(base-1)
					want := sameRest && (product == 0) == (n*m == 0)
					if got := impl.CouldBe(product, n, m, base); got != want {
						t.Fatalf("CouldBe(%d, %d, %d, %d) = %v", product, n, m, base, got)
					}
				}
			}
		}
	})
}

func TestP10OthersCouldNotBe(t *testing.T) {
	goods := []int{0, 1, 9, 12, impl.MaxWhole}
	eachBase(func(base int) {
		for _, bad := range badWholes {
			for _, good := range goods {
				for _, also := range append([]int{bad, -1}, goods...) {
					if impl.CouldBe(bad, good, also, base) || impl.CouldBe(good, bad, also, base) || impl.CouldBe(good, also, bad, base) {
						t.Fatal(bad, good, also, base)
					}
				}
			}
			if impl.CouldBe(bad, bad, bad, base) || impl.CouldBe(1, bad, bad, base) {
				t.Fatal(bad, base)
			}
		}
	})
	for _, base := range badBases {
		for _, n := range goods {
			if impl.CouldBe(n, n, 1, base) || impl.CouldBe(n, 1, n, base) || impl.CouldBe(0, 0, n, base) || impl.CouldBe(-1, n, -1, base) {
				t.Fatal(n, base)
			}
		}
	}
}
