package integer_test

import (
	"math/big"
	"slices"
	"strings"
	"testing"

	"longliner/api"
	"longliner/integer"
)

// dividesExactly checks the quotient and the remainder of a by b, which is not 0.
func dividesExactly(t *testing.T, a string, b string) {
	t.Helper()
	want, rest := new(big.Int).DivMod(number(t, a), number(t, b), new(big.Int))
	q, r, e := integer.Div(a, b)
	if q != want.String() || r != rest.String() || e != api.OK {
		t.Fatalf("Div(%s, %s) = %s, %s, %d; it is %s, %s", a, b, q, r, e, want, rest)
	}
}

func TestDivIsExact(t *testing.T) {
	list := samples()
	for _, a := range list {
		for _, b := range list {
			if b != "0" {
				dividesExactly(t, a, b)
			}
		}
	}
}

// Every quotient and remainder within bounds is tried, so that it is seen that there is only the one.
func TestNoOtherRemainderIsInBounds(t *testing.T) {
	for a := -60; a <= 60; a++ {
		for b := -13; b <= 13; b++ {
			found := [][3]string{}
			for r := range max(b, -b) {
				if (a-r)%b == 0 {
					found = append(found, [3]string{integer.FromInt((a - r) / b), integer.FromInt(r)})
				}
			}
			q, r, e := integer.Div(integer.FromInt(a), integer.FromInt(b))
			if b == 0 && (q != "" || r != "" || e != api.ErrInteger) {
				t.Errorf("Div(%d, 0) = %s, %s, %d", a, q, r, e)
			}
			if b != 0 && (e != api.OK || !slices.Equal(found, [][3]string{{q, r}})) {
				t.Errorf("Div(%d, %d) = %s, %s, %d; possible is %v", a, b, q, r, e, found)
			}
		}
	}
}

// Dividends just below, at and above a multiple of the divisor are where a group of the quotient is most easily missed by one.
func TestDivNearMultiples(t *testing.T) {
	for _, n := range []int{1, 3, 4, 5, 8, 9, 12, 13, 16, 17, 20, 21, 60, 100} {
		for _, b := range []string{"1" + strings.Repeat("0", n-1), strings.Repeat("9", n), mixed(n, 3), "9999" + strings.Repeat("0", n), "10000" + strings.Repeat("9", n), "1" + strings.Repeat("0", n-1) + "1", strings.Repeat("99990000", n)[:n]} {
			for _, q := range []string{"1", "2", "9999", "10000", "10001", "99989998", "99999999", "100000000", strings.Repeat("9999", 9), mixed(36, n), strings.Repeat("00019999", 11)[3:]} {
				multiple := product(b, q)
				for _, a := range []string{multiple, sum(multiple, "1"), difference(multiple, "1"), sum(multiple, difference(b, "1"))} {
					for _, sign := range []string{"", "-"} {
						dividesExactly(t, a, sign+b)
						dividesExactly(t, difference("0", a), sign+b)
					}
				}
			}
		}
	}
}

func TestDivRefusesZero(t *testing.T) {
	for _, a := range samples() {
		if q, r, e := integer.Div(a, "0"); q != "" || r != "" || e != api.ErrInteger {
			t.Errorf("Div(%s, 0) = %s, %s, %d", a, q, r, e)
		}
	}
}

func TestDivExamples(t *testing.T) {
	most := strings.Repeat("9", 200)
	for _, c := range []struct{ a, b, q, r string }{
		{"7", "2", "3", "1"}, {"-7", "2", "-4", "1"}, {"7", "-2", "-3", "1"}, {"-7", "-2", "4", "1"},
		{"0", "-5", "0", "0"}, {"-6", "3", "-2", "0"}, {"-6", "-3", "2", "0"}, {"-1", most, "-1", most[:199] + "8"}, {"-1", "-" + most, "1", most[:199] + "8"},
		{most, "1", most, "0"}, {most, "-1", "-" + most, "0"}, {"-" + most, "-1", most, "0"}, {"-" + most, most, "-1", "0"},
	} {
		if q, r, e := integer.Div(c.a, c.b); q != c.q || r != c.r || e != api.OK {
			t.Errorf("Div(%s, %s) = %s, %s, %d", c.a, c.b, q, r, e)
		}
	}
}

func TestGcdIsExact(t *testing.T) {
	list := samples()
	for i, a := range list {
		for j, b := range list {
			if (i+j)%5 > 0 {
				continue
			}
			want := exact("Gcd", number(t, a), number(t, b)).String()
			if got, e := integer.Gcd(a, b); got != want || e != api.OK {
				t.Fatalf("Gcd(%s, %s) = %s, %d; it is %s", a, b, got, e, want)
			}
		}
	}
}

// Gcd divides both, and each common divisor divides it; all divisors are tried.
func TestGcdIsDividedByEachCommonDivisor(t *testing.T) {
	for a := -48; a <= 48; a++ {
		for b := -48; b <= 48; b++ {
			s, e := integer.Gcd(integer.FromInt(a), integer.FromInt(b))
			g, f := integer.ToInt(s)
			if e != api.OK || f != api.OK || g < 0 || (g == 0) != (a == 0 && b == 0) {
				t.Fatalf("Gcd(%d, %d) = %s, %d", a, b, s, e)
			}
			for d := 1; d <= 48; d++ {
				if (a%d == 0 && b%d == 0) != (g%d == 0) {
					t.Fatalf("Gcd(%d, %d) = %d, and the divisor %d", a, b, g, d)
				}
			}
		}
	}
}

func TestGcdOfMultiplesAndOfLongChains(t *testing.T) {
	a, b := "1", "1"
	for sum(a, b) != "" {
		a, b = b, sum(a, b)
	}
	if g, e := integer.Gcd(a, b); g != "1" || e != api.OK || len(b) != api.MaxDigits {
		t.Errorf("neighbours of Fibonacci's have the common divisor %s, %d", g, e)
	}
	for n := 1; n <= 90; n++ {
		factor := mixed(n, n)
		if g, e := integer.Gcd(product(factor, "-"+a[:100]), product(factor, sum(a[:100], "1"))); g != factor || e != api.OK {
			t.Errorf("Gcd of multiples of %s is %s, %d", factor, g, e)
		}
	}
}

// rootsExactly checks that the square of the root is at most a, which is not negative, and that the next square is greater.
func rootsExactly(t *testing.T, a string) {
	t.Helper()
	s, e := integer.Root(a)
	if e != api.OK || !integer.Valid(s) {
		t.Fatalf("Root(%s) = %q, %d", a, s, e)
	}
	n, root := number(t, a), number(t, s)
	next := new(big.Int).Add(root, big.NewInt(1))
	if root.Sign() < 0 || root.Mul(root, root).Cmp(n) > 0 || next.Mul(next, next).Cmp(n) <= 0 {
		t.Fatalf("Root(%s) = %s", a, s)
	}
}

func TestRootIsExact(t *testing.T) {
	for n := range 12000 {
		rootsExactly(t, integer.FromInt(n))
	}
	for _, s := range samples() {
		if s[0] != '-' {
			rootsExactly(t, s)
		}
		if square := product(s, s); square != "" {
			rootsExactly(t, square)
			rootsExactly(t, sum(square, "1"))
			if square != "0" {
				rootsExactly(t, difference(square, "1"))
			}
		}
	}
}

func TestRootExamples(t *testing.T) {
	for a, want := range map[string]string{"0": "0", "1": "1", "2": "1", "3": "1", "4": "2", "99": "9", "100": "10", strings.Repeat("9", 200): strings.Repeat("9", 100), "1" + strings.Repeat("0", 198): "1" + strings.Repeat("0", 99)} {
		if got, e := integer.Root(a); got != want || e != api.OK {
			t.Errorf("Root(%s) = %s, %d", a, got, e)
		}
	}
	for _, a := range []string{"-1", "-4", "-100", "-" + strings.Repeat("9", 200)} {
		if got, e := integer.Root(a); got != "" || e != api.ErrInteger {
			t.Errorf("Root(%s) = %s, %d", a, got, e)
		}
	}
}
