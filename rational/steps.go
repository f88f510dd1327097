package rational

import (
	"strings"

	"longliner/api"
	"longliner/integer"
)

// An operation makes an integer of two others.
type operation func(x string, y string) (string, api.Errno)

// A step makes two integers of those of a fraction that is being built; they need not be in lowest terms.
type step func(r api.Ratio) (api.Ratio, api.Errno)

// build returns what the steps make of r, one after the other. After an error, those that are left are skipped.
func build(r api.Ratio, steps ...step) (api.Ratio, api.Errno) {
	e := api.OK
	for _, next := range steps {
		if e == api.OK {
			r, e = next(r)
		}
	}
	if e != api.OK {
		return api.Ratio{}, api.ErrRational
	}
	return r, api.OK
}

// valid is a step that only checks that all the fractions are valid.
func valid(all ...api.Ratio) step {
	return func(r api.Ratio) (api.Ratio, api.Errno) {
		for _, one := range all {
			if !Valid(one) {
				return api.Ratio{}, api.ErrRational
			}
		}
		return r, api.OK
	}
}

// num is a step that calculates a new numerator from the one so far and y.
func num(calculate operation, y string) step {
	return func(r api.Ratio) (api.Ratio, api.Errno) {
		n, e := calculate(r.Num, y)
		return api.Ratio{Num: n, Den: r.Den}, e
	}
}

// den is a step that calculates a new denominator from the one so far and y.
func den(calculate operation, y string) step {
	return func(r api.Ratio) (api.Ratio, api.Errno) {
		d, e := calculate(r.Den, y)
		return api.Ratio{Num: r.Num, Den: d}, e
	}
}

// reduce is a step that makes the denominator positive, and both integers as small as possible.
func reduce(r api.Ratio) (api.Ratio, api.Errno) {
	return build(r, positive, lowest)
}

// positive is a step that makes the denominator positive, and refuses one that is 0 or not valid.
func positive(r api.Ratio) (api.Ratio, api.Errno) {
	switch integer.Compare(r.Den, "0") {
	case 1:
		return r, api.OK
	case -1:
		return build(api.Ratio{Num: "0", Den: "0"}, num(integer.Sub, r.Num), den(integer.Sub, r.Den))
	}
	return api.Ratio{}, api.ErrRational
}

// lowest is a step that divides both integers by their greatest common divisor.
func lowest(r api.Ratio) (api.Ratio, api.Errno) {
	divisor, e := integer.Gcd(r.Num, r.Den)
	if e != api.OK {
		return api.Ratio{}, e
	}
	return build(r, num(floor, divisor), den(floor, divisor))
}

// combine returns the fraction whose numerator is calculated from those of a and b over their common denominator.
func combine(a api.Ratio, b api.Ratio, calculate operation) (api.Ratio, api.Errno) {
	scaled := func(x string, y string) (string, api.Errno) {
		product, e := integer.Mul(y, a.Den)
		if e != api.OK {
			return "", e
		}
		return calculate(x, product)
	}
	return build(a, valid(a, b), num(integer.Mul, b.Den), num(scaled, b.Num), den(integer.Mul, b.Den), reduce)
}

// round returns the fraction of that many decimal places whose numerator the division finds.
func round(r api.Ratio, places int, divide operation) (api.Ratio, api.Errno) {
	if places < 0 || places > api.MaxPlaces {
		return api.Ratio{}, api.ErrRational
	}
	scale := "1" + strings.Repeat("0", places)
	over := func(r api.Ratio) (api.Ratio, api.Errno) {
		return api.Ratio{Num: r.Num, Den: scale}, api.OK
	}
	return build(r, valid(r), num(integer.Mul, scale), num(divide, r.Den), over, reduce)
}

// floor is the operation that returns the greatest integer that is at most x / y, for a positive y.
func floor(x string, y string) (string, api.Errno) {
	quotient, _, e := integer.Div(x, y)
	return quotient, e
}

// ceiling is the operation that returns the smallest integer that is at least x / y, for a positive y.
func ceiling(x string, y string) (string, api.Errno) {
	quotient, rest, e := integer.Div(x, y)
	if e != api.OK || rest == "0" {
		return quotient, e
	}
	return integer.Add(quotient, "1")
}
