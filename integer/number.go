package integer

import (
	"strings"

	"longliner/api"
)

// A number is an integer of any size; 0 is never negative.
type number struct {
	negative bool
	size     groups
}

// numberOf returns the number that s, which is a valid integer, stands for.
func numberOf(s string) number {
	digits, negative := strings.CutPrefix(s, "-")
	return number{negative, groupsOf(digits)}
}

// signed returns the number of the given size, negative if it is to be and can be.
func signed(negative bool, size groups) number {
	return number{negative && len(size) > 0, size}
}

// valid returns the integer that stands for a, if it does not have too many digits.
func (a number) valid() (string, api.Errno) {
	digits := a.size.digits()
	if len(digits) > api.MaxDigits {
		return "", api.ErrInteger
	}
	if a.negative {
		return "-" + digits, api.OK
	}
	return digits, api.OK
}

// compare returns -1, 0 or 1 as a is less than, equal to or greater than b.
func (a number) compare(b number) int {
	switch {
	case a.negative && b.negative:
		return b.size.compare(a.size)
	case a.negative:
		return -1
	case b.negative:
		return 1
	}
	return a.size.compare(b.size)
}

// plus returns the sum of a and b.
func (a number) plus(b number) number {
	if a.negative == b.negative {
		return signed(a.negative, a.size.plus(b.size))
	}
	if a.size.compare(b.size) < 0 {
		a, b = b, a
	}
	return signed(a.negative, a.size.minus(b.size))
}

// minus returns the difference of a and b.
func (a number) minus(b number) number {
	return a.plus(signed(!b.negative, b.size))
}

// times returns the product of a and b.
func (a number) times(b number) number {
	return signed(a.negative != b.negative, a.size.times(b.size))
}

// divide returns the quotient and the remainder of a by b, which is not 0. The sizes alone give a remainder of the sign of a; where that is negative, one more divisor is taken away.
func (a number) divide(b number) (number, number) {
	quotient, rest := a.size.divide(b.size)
	if a.negative && len(rest) > 0 {
		quotient, rest = quotient.plus(groups{1}), b.size.minus(rest)
	}
	return signed(a.negative != b.negative, quotient), signed(false, rest)
}

// gcd returns the greatest common divisor of a and b.
func (a number) gcd(b number) number {
	x, y := a.size, b.size
	for len(y) > 0 {
		_, rest := x.divide(y)
		x, y = y, rest
	}
	return signed(false, x)
}
