package rational_test

import (
	"iter"
	"math/big"
	"strconv"
	"strings"
	"testing"

	"longliner/api"
	"longliner/rational"
)

// operations are the functions that make one fraction of two.
var operations = map[string]func(api.Ratio, api.Ratio) (api.Ratio, api.Errno){"Add": rational.Add, "Sub": rational.Sub, "Mul": rational.Mul, "Div": rational.Div}

// most is the greatest integer, and power is the smallest one of as many digits.
var most, power = strings.Repeat("9", api.MaxDigits), ten(api.MaxDigits - 1)

// invalid are no valid fractions.
var invalid = []api.Ratio{
	{}, {Num: "1"}, {Den: "1"}, {Num: "0"}, {Num: "1", Den: "0"}, {Num: "0", Den: "0"}, {Num: "-1", Den: "0"}, {Num: "0", Den: "2"}, {Num: "0", Den: "-1"}, {Num: "1", Den: "-1"}, {Num: "3", Den: "-2"}, {Num: "-3", Den: "-2"},
	{Num: "2", Den: "4"}, {Num: "-6", Den: "9"}, {Num: "2", Den: "2"}, {Num: most, Den: most}, {Num: power, Den: "2"}, {Num: "3", Den: most},
	{Num: "x", Den: "1"}, {Num: "1", Den: "x"}, {Num: "-0", Den: "1"}, {Num: "01", Den: "1"}, {Num: "1", Den: "01"}, {Num: "+1", Den: "2"}, {Num: "1", Den: "+2"}, {Num: "1 ", Den: "2"}, {Num: "1/2", Den: "1"}, {Num: "1", Den: "1/2"},
	{Num: most + "9", Den: "1"}, {Num: "1", Den: most + "9"}, {Num: "-" + power + "0", Den: "1"}, {Num: "1", Den: strings.Repeat("3", 1<<20)},
}

// ten returns ten to the power of n.
func ten(n int) string {
	return "1" + strings.Repeat("0", n)
}

// mixed returns n digits in no order, other ones for another seed; the last one is odd and not 5, so that powers of ten have no divisor in common with it.
func mixed(n int, seed int) string {
	digits := []byte{}
	for state := uint32(seed)*2654435761 + 1; len(digits) < n; state = state*1664525 + 1013904223 {
		digit := '0' + byte(state>>24%10)
		if len(digits) > 0 || digit != '0' {
			digits = append(digits, digit)
		}
	}
	return string(digits[:n-1]) + []string{"1", "3", "7", "9"}[seed%4]
}

// number returns what math/big reads in s.
func number(s string) *big.Int {
	n, ok := new(big.Int).SetString(s, 10)
	if !ok {
		panic("no number: " + s)
	}
	return n
}

// value returns the value of r, which is valid.
func value(r api.Ratio) *big.Rat {
	return new(big.Rat).SetFrac(number(r.Num), number(r.Den))
}

// written returns the fraction with the value v.
func written(v *big.Rat) api.Ratio {
	return api.Ratio{Num: v.Num().String(), Den: v.Denom().String()}
}

// of returns the fraction n / d in lowest terms, made by math/big.
func of(n string, d string) api.Ratio {
	return written(new(big.Rat).SetFrac(number(n), number(d)))
}

// small returns all fractions whose integers are n at most.
func small(n int64) []api.Ratio {
	list := []api.Ratio{}
	for d := int64(1); d <= n; d++ {
		for k := -n; k <= n; k++ {
			if v := big.NewRat(k, d); v.Denom().Int64() == d {
				list = append(list, written(v))
			}
		}
	}
	return list
}

// samples returns fractions of all lengths, with both signs, some of them so close to each other that only their last digits tell them apart.
func samples() []api.Ratio {
	list := small(4)
	add := func(n string, d string) { list = append(list, of(n, d), of("-"+n, d)) }
	for _, n := range []int{1, 2, 5, 20, 49, 66, 67, 98, 99, 100, 101, 133, 134, 150, 198, 199} {
		add(ten(n), "1")
		add("1", ten(n))
		add(ten(n), mixed(n+1, n))
		add(mixed(n, n), mixed(n, n+1))
		add(mixed(n, n+2), "7")
		add(mixed(3, n), mixed(n+1, n+3))
	}
	for _, s := range []string{most, most[1:], most[:100], most[:101], most[1:] + "8"} {
		add(s, "1")
		add("1", s)
		add(s, ten(len(s)-1))
		add(ten(len(s)-1), s)
	}
	add(most, most[1:]+"8")
	add(most[1:]+"8", most)
	add(most[1:]+"8", most[1:]+"7")
	for _, c := range []string{"33333/100000", "333334/1000000", "1/8", "999/1000", "1234567/1000000", "5/2", "22/7", "355/113"} {
		n, d, _ := strings.Cut(c, "/")
		add(n, d)
	}
	for _, f := range neighbours() {
		add(f.Num, f.Den)
	}
	return list
}

// neighbours returns fractions of two successive numbers of Fibonacci's. They take the most steps to be told apart.
func neighbours() []api.Ratio {
	a, b := big.NewInt(1), big.NewInt(1)
	list := []api.Ratio{}
	for n := 0; len(b.String()) <= api.MaxDigits; n++ {
		if len(b.String()) == api.MaxDigits || n%160 == 3 {
			list = append(list, api.Ratio{Num: a.String(), Den: b.String()}, api.Ratio{Num: b.String(), Den: a.String()})
		}
		a, b = b, a.Add(a, b)
	}
	return list
}

// some returns every n-th of the samples.
func some(n int) []api.Ratio {
	list := []api.Ratio{}
	for i, r := range samples() {
		if i%n == 0 {
			list = append(list, r)
		}
	}
	return list
}

// pairs yields one out of n of all pairs of the list.
func pairs(list []api.Ratio, n int) iter.Seq2[api.Ratio, api.Ratio] {
	return func(yield func(api.Ratio, api.Ratio) bool) {
		for i, a := range list {
			for k := (n - i%n) % n; k < len(list); k += n {
				if !yield(a, list[k]) {
					return
				}
			}
		}
	}
}

// fits reports whether all the integers have no more digits than they may have.
func fits(all ...*big.Int) bool {
	for _, n := range all {
		if len(new(big.Int).Abs(n).String()) > api.MaxDigits {
			return false
		}
	}
	return true
}

// refused checks that a call returned a zero value and ErrRational.
func refused(t *testing.T, call string, r api.Ratio, e api.Errno) {
	t.Helper()
	if r != (api.Ratio{}) || e != api.ErrRational {
		t.Errorf("%.300s = %.100q, %d", call, r, e)
	}
}

// returns checks that a call returned the valid fraction wanted.
func returns(t *testing.T, call string, r api.Ratio, e api.Errno, want api.Ratio) {
	t.Helper()
	if r != want || e != api.OK || !rational.Valid(r) {
		t.Fatalf("%s = %s, %d; it is %s", call, r, e, want)
	}
}

// named returns how a call with these fractions is written.
func named(name string, all ...api.Ratio) string {
	for i, r := range all {
		name += []string{" of ", ", "}[min(i, 1)] + strconv.Quote(r.Num) + "/" + strconv.Quote(r.Den)
	}
	return name
}
