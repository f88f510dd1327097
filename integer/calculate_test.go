package integer_test

import (
	"math/big"
	"strings"
	"testing"

	"longliner/api"
	"longliner/integer"
)

// written returns the integer n and OK, or what stands for a result with too many digits.
func written(n *big.Int) (string, api.Errno) {
	if s := n.String(); len(strings.TrimPrefix(s, "-")) <= api.MaxDigits {
		return s, api.OK
	}
	return "", api.ErrInteger
}

// exact calculates like the operation of that name, with math/big.
func exact(name string, x *big.Int, y *big.Int) *big.Int {
	switch name {
	case "Add":
		return new(big.Int).Add(x, y)
	case "Sub":
		return new(big.Int).Sub(x, y)
	case "Mul":
		return new(big.Int).Mul(x, y)
	}
	return new(big.Int).GCD(nil, nil, new(big.Int).Abs(x), new(big.Int).Abs(y))
}

func TestOperationsAreExact(t *testing.T) {
	list := samples()
	for _, a := range list {
		for _, b := range list {
			x, y := number(t, a), number(t, b)
			for _, name := range []string{"Add", "Sub", "Mul"} {
				want, e := written(exact(name, x, y))
				if got, f := operations[name](a, b); got != want || f != e {
					t.Fatalf("%s(%s, %s) = %s, %d; it is %s, %d", name, a, b, got, f, want, e)
				}
			}
		}
	}
}

func TestSmallOperationsAreExact(t *testing.T) {
	for x := -120; x <= 120; x++ {
		for y := -120; y <= 120; y++ {
			a, b := integer.FromInt(x*997), integer.FromInt(y*997)
			for name, f := range operations {
				want, _ := written(exact(name, big.NewInt(int64(x)*997), big.NewInt(int64(y)*997)))
				if got, e := f(a, b); got != want || e != api.OK {
					t.Fatalf("%s(%s, %s) = %s, %d; it is %s", name, a, b, got, e, want)
				}
			}
		}
	}
}

func TestCarriesRunThroughAllGroups(t *testing.T) {
	for n := 1; n < api.MaxDigits; n++ {
		nines, power := strings.Repeat("9", n), "1"+strings.Repeat("0", n)
		for _, c := range []struct{ name, a, b, want string }{
			{"Add", nines, "1", power}, {"Add", "1", nines, power}, {"Add", "-" + nines, "-1", "-" + power}, {"Add", power, "-1", nines}, {"Add", "-1", power, nines}, {"Add", "-" + power, "1", "-" + nines},
			{"Sub", power, "1", nines}, {"Sub", "1", power, "-" + nines}, {"Sub", power, nines, "1"}, {"Sub", nines, power, "-1"}, {"Sub", "-1", nines, "-" + power}, {"Sub", nines, nines, "0"}, {"Sub", "-" + power, "-" + power, "0"}, {"Sub", "0", power, "-" + power},
			{"Mul", power, "-1", "-" + power}, {"Mul", "-" + nines, "-1", nines}, {"Mul", "0", "-" + nines, "0"}, {"Mul", "-" + power, "0", "0"},
		} {
			if got, e := operations[c.name](c.a, c.b); got != c.want || e != api.OK {
				t.Fatalf("%s(%s, %s) = %s, %d", c.name, c.a, c.b, got, e)
			}
		}
	}
}

func TestResultsHaveTwoHundredDigitsAtMost(t *testing.T) {
	most, half := strings.Repeat("9", 200), "1"+strings.Repeat("0", 100)
	for _, c := range []struct {
		name, a, b string
		digits     int
	}{
		{"Add", most, "0", 200}, {"Add", most, "1", 0}, {"Add", "1", most, 0}, {"Add", "-" + most, "-1", 0}, {"Add", most, most, 0}, {"Add", most, "-1", 200}, {"Add", most[:199], "1", 200}, {"Add", most, "-" + most, 1},
		{"Sub", most, "-1", 0}, {"Sub", "-" + most, "1", 0}, {"Sub", most, "-" + most, 0}, {"Sub", most, most, 1}, {"Sub", most, "1", 200}, {"Sub", "-" + most[:199], "1", 200},
		{"Mul", half, half, 0}, {"Mul", half, half[:100], 200}, {"Mul", "-" + half, half, 0}, {"Mul", "-" + half, half[:100], 200}, {"Mul", most, most, 0}, {"Mul", most, "1", 200}, {"Mul", most, "2", 0}, {"Mul", most, "0", 1}, {"Mul", most[:100], most[:100], 200}, {"Mul", most[:101], most[:100], 0}, {"Mul", half, "4" + strings.Repeat("9", 99), 200},
		{"Gcd", most, most, 200}, {"Gcd", "-" + most, "0", 200}, {"Gcd", "0", "-" + most, 200},
	} {
		got, e := operations[c.name](c.a, c.b)
		if digits := len(strings.TrimPrefix(got, "-")); digits != c.digits || (e == api.OK) != (digits > 0) || e != api.OK && e != api.ErrInteger {
			t.Errorf("%s(%s, %s) has %d digits, error %d", c.name, c.a, c.b, digits, e)
		}
	}
}

func TestExamples(t *testing.T) {
	for _, c := range []struct{ name, a, b, want string }{
		{"Add", "999", "1", "1000"}, {"Sub", "1", "1000", "-999"}, {"Mul", "-12", "12", "-144"}, {"Gcd", "12", "-18", "6"},
	} {
		if got, e := operations[c.name](c.a, c.b); got != c.want || e != api.OK {
			t.Errorf("%s(%s, %s) = %s, %d", c.name, c.a, c.b, got, e)
		}
	}
}

// sum, difference and product are those of two integers, or an empty string if there are too many digits, on the way too.
func sum(a string, b string) string        { s, _ := integer.Add(a, b); return s }
func difference(a string, b string) string { s, _ := integer.Sub(a, b); return s }
func product(a string, b string) string    { s, _ := integer.Mul(a, b); return s }

func TestSumsAndProductsCommute(t *testing.T) {
	list := some()
	for _, a := range list {
		for _, b := range list {
			if sum(a, b) != sum(b, a) || product(a, b) != product(b, a) {
				t.Fatalf("%s and %s do not commute", a, b)
			}
			if d := difference(a, b); d != "" && sum(b, d) != a {
				t.Fatalf("%s is not what is to be added to %s for %s", d, b, a)
			}
		}
	}
}

func TestSumsAndProductsAssociateAndDistribute(t *testing.T) {
	list := some()
	equal := 0
	same := func(law string, x string, y string) {
		if x == "" || y == "" {
			return
		}
		equal++
		if x != y {
			t.Fatalf("%s: %s and %s", law, x, y)
		}
	}
	for i, a := range list {
		for j, b := range list {
			for k := (i + j) % 31; k < len(list); k += 31 {
				c := list[k]
				same("a + (b + c)", sum(a, sum(b, c)), sum(sum(a, b), c))
				same("a * (b * c)", product(a, product(b, c)), product(product(a, b), c))
				same("a * (b + c)", product(a, sum(b, c)), sum(product(a, b), product(a, c)))
			}
		}
	}
	if equal < len(list)*len(list)*len(list)/31 {
		t.Errorf("only %d laws were tried", equal)
	}
}
