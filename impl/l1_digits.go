package impl

import "iter"

// MaxBase is the greatest base, and MaxWhole is the greatest number.
const (
	MaxBase  = 16
	MaxWhole = 1000000000
)

// BaseOk reports whether a base is in 2..MaxBase.
func BaseOk(base int) bool {
	return base >= 2 && base <= MaxBase
}

// DigitsOf returns the digits of a number, in 0..MaxWhole, in a base (BaseOk), the first one first, without noughts ahead, one digit 0 for 0; nil for others.
func DigitsOf(n int, base int) []int {
	if !hasDigits(n, base) {
		return nil
	}
	var backward []int
	for digit := range lastFirst(n, base) {
		backward = append(backward, digit)
	}
	return reversed(backward)
}

// WholeOf returns the number of digits, 1 or more, each in 0..base less 1, the first one first, in a base (BaseOk), if it is at most MaxWhole, and true; -1 and false for others.
func WholeOf(digits []int, base int) (int, bool) {
	if !BaseOk(base) || len(digits) == 0 {
		return -1, false
	}
	whole := 0
	for _, digit := range digits {
		if digit < 0 || digit >= base {
			return -1, false
		}
		// Asked before the next digit is taken in: a long row would wrap around.
		if whole > (MaxWhole-digit)/base {
			return -1, false
		}
		whole = whole*base + digit
	}
	return whole, true
}

// LongOf returns how many digits a number has in a base (DigitsOf); -1 for others.
func LongOf(n int, base int) int {
	if !hasDigits(n, base) {
		return -1
	}
	return len(DigitsOf(n, base))
}

// BehindOf returns the number of the digits of a number, and those of a second one behind them, in a base (DigitsOf, WholeOf), if it is at most MaxWhole, and true; -1 and false for others.
func BehindOf(n int, m int, base int) (int, bool) {
	// Asked of both: with no digits of one of them the row would still be one.
	if !hasDigits(n, base) || !hasDigits(m, base) {
		return -1, false
	}
	return WholeOf(append(DigitsOf(n, base), DigitsOf(m, base)...), base)
}

// SumOf returns the sum of all digits of a number in a base (DigitsOf); -1 for others.
func SumOf(n int, base int) int {
	if !hasDigits(n, base) {
		return -1
	}
	sum := 0
	for digit := range lastFirst(n, base) {
		sum += digit
	}
	return sum
}

// hasDigits reports whether a number and a base are such that DigitsOf them is told.
func hasDigits(n int, base int) bool {
	return BaseOk(base) && n >= 0 && n <= MaxWhole
}

// lastFirst yields the digits of a number that has digits (hasDigits) from the last one on, as division gives them.
func lastFirst(n int, base int) iter.Seq[int] {
	return func(yield func(int) bool) {
		// The digit is yielded before it is asked whether any are left, so that 0 has one.
		for left := n; ; left /= base {
			if !yield(left%base) || left < base {
				return
			}
		}
	}
}

// reversed returns a row from its last part to its first one, as a new row, so that the one given may be anybody's.
func reversed[T any](row []T) []T {
	back := make([]T, 0, len(row))
	for i := range row {
		back = append(back, row[len(row)-1-i])
	}
	return back
}
