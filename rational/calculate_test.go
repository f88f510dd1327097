package rational_test

import (
	"math/big"
	"testing"

	"longliner/api"
	"longliner/rational"
)

// exact calculates like the operation of that name with math/big: it returns all the integers on the way, of which the last two are the numerator and the denominator before they are reduced.
func exact(name string, a api.Ratio, b api.Ratio) []*big.Int {
	times := func(x string, y string) *big.Int { return new(big.Int).Mul(number(x), number(y)) }
	x, y, d := times(a.Num, b.Den), times(b.Num, a.Den), times(a.Den, b.Den)
	switch name {
	case "Add":
		return []*big.Int{x, y, new(big.Int).Add(x, y), d}
	case "Sub":
		return []*big.Int{x, y, new(big.Int).Sub(x, y), d}
	case "Mul":
		return []*big.Int{times(a.Num, b.Num), d}
	}
	return []*big.Int{x, times(a.Den, b.Num)}
}

// calculates checks the operation of that name, and reports whether it returned a fraction.
func calculates(t *testing.T, name string, a api.Ratio, b api.Ratio) bool {
	t.Helper()
	r, e := operations[name](a, b)
	way := exact(name, a, b)
	n, d := way[len(way)-2], way[len(way)-1]
	if d.Sign() == 0 || !fits(way...) {
		refused(t, named(name, a, b), r, e)
		return false
	}
	returns(t, named(name, a, b), r, e, written(new(big.Rat).SetFrac(n, d)))
	return true
}

func TestOperationsAreExact(t *testing.T) {
	list := samples()
	for name := range operations {
		tried, done := 0, 0
		for a, b := range pairs(list, 61) {
			tried++
			if calculates(t, name, a, b) {
				done++
			}
		}
		if tried < len(list)*len(list)/62 || done < tried/4 || done > tried*3/4 {
			t.Errorf("%s: %d of %d pairs were not too large", name, done, tried)
		}
	}
}

func TestSmallOperationsAreExact(t *testing.T) {
	list := small(9)
	for name := range operations {
		for _, a := range list {
			for _, b := range list {
				if calculates(t, name, a, b) != (name != "Div" || b.Num != "0") {
					t.Fatalf("%s", named(name, a, b))
				}
			}
		}
	}
}

func TestOperationsOnTheWay(t *testing.T) {
	one, zero, half, third := of("1", "1"), of("0", "1"), of("1", "2"), of("1", "3")
	for i, c := range []struct {
		name string
		a, b api.Ratio
		want api.Ratio
	}{
		{"Add", of("1", ten(100)), of("-1", ten(100)), api.Ratio{}}, // only the denominator is too large, and the sum would be 0
		{"Sub", of("1", ten(100)), of("1", ten(100)), api.Ratio{}},  // the difference would be 0
		{"Add", of("1", ten(99)), of("-1", ten(99)), zero},
		{"Add", of(most, "1"), third, api.Ratio{}}, // the first product
		{"Add", third, of(most, "1"), api.Ratio{}}, // the second product
		{"Sub", half, of(most, "1"), api.Ratio{}},
		{"Add", of("5"+power[1:], "1"), of("5"+power[1:], "1"), api.Ratio{}}, // only the sum
		{"Sub", of("5"+power[1:], "1"), of("-5"+power[1:], "1"), api.Ratio{}},
		{"Add", of(most, "1"), one, api.Ratio{}},
		{"Sub", of("-"+most, "1"), one, api.Ratio{}},
		{"Add", of("-"+most, "1"), one, of("-"+most[1:]+"8", "1")},
		{"Sub", of(most, "1"), of(most, "1"), zero},
		{"Add", of(most, "1"), zero, of(most, "1")},
		{"Sub", zero, of("1", most), of("-1", most)},
		{"Mul", of(ten(100), "7"), of("7", ten(100)), one},
		{"Mul", of(ten(100), "7"), of(ten(99), "3"), of(power, "21")},
		{"Mul", of(ten(100), "7"), of(ten(100), "3"), api.Ratio{}}, // the numerator
		{"Mul", of("7", ten(100)), of("3", ten(100)), api.Ratio{}}, // the denominator
		{"Mul", of(power, "7"), of("7", power), one},
		{"Mul", of(most, "2"), of("2", "3"), api.Ratio{}}, // the result would have few enough digits
		{"Mul", of(most, "7"), zero, zero},
		{"Div", of(ten(100), mixed(101, 1)), of(ten(100), mixed(101, 1)), api.Ratio{}}, // both products, and the quotient would be 1
		{"Div", of(ten(100), "1"), of("1", ten(100)), api.Ratio{}},                     // the numerator
		{"Div", of("1", ten(100)), of("-"+ten(100), "1"), api.Ratio{}},                 // the denominator
		{"Div", of(most, "1"), of("-"+most, "1"), of("-1", "1")},
		{"Div", one, of("-1", most), of("-"+most, "1")},
		{"Div", zero, of("-"+most, "7"), zero},
		{"Div", zero, of("-1", ten(199)), zero},
		{"Div", one, zero, api.Ratio{}},
		{"Div", zero, zero, api.Ratio{}},
	} {
		r, e := operations[c.name](c.a, c.b)
		if c.want == (api.Ratio{}) {
			refused(t, named(c.name, c.a, c.b), r, e)
		} else {
			returns(t, named(c.name, c.a, c.b), r, e, c.want)
		}
		if calculates(t, c.name, c.a, c.b) != (e == api.OK) {
			t.Errorf("case %d", i)
		}
	}
}

func TestOperationsRefuseInvalidFractions(t *testing.T) {
	for _, r := range invalid {
		for _, other := range append(some(70), r, of("0", "1"), of("1", "1")) {
			for name, calculate := range operations {
				got, e := calculate(r, other)
				refused(t, named(name, r, other), got, e)
				got, e = calculate(other, r)
				refused(t, named(name, other, r), got, e)
			}
		}
	}
}

func TestOperationExamples(t *testing.T) {
	for _, c := range []struct{ name, a, b, want string }{
		{"Add", "1/2", "1/3", "5/6"}, {"Sub", "1/2", "1/2", "0"}, {"Mul", "-2/3", "3/4", "-1/2"}, {"Div", "1/2", "-1/4", "-2"}, {"Div", "1", "0", ""}, {"Mul", ten(150), ten(150), ""},
	} {
		a, _ := rational.Parse(c.a)
		b, _ := rational.Parse(c.b)
		r, e := operations[c.name](a, b)
		if rational.Print(r) != c.want || (e == api.OK) != (c.want != "") {
			t.Errorf("%s = %s, %d", named(c.name, a, b), rational.Print(r), e)
		}
	}
}

// sum, difference, product and quotient are those of two fractions, or a zero value if something is too large, on the way too.
func sum(a api.Ratio, b api.Ratio) api.Ratio        { r, _ := rational.Add(a, b); return r }
func difference(a api.Ratio, b api.Ratio) api.Ratio { r, _ := rational.Sub(a, b); return r }
func product(a api.Ratio, b api.Ratio) api.Ratio    { r, _ := rational.Mul(a, b); return r }
func quotient(a api.Ratio, b api.Ratio) api.Ratio   { r, _ := rational.Div(a, b); return r }

// laws checks equations, and counts those in which nothing is too large.
type laws struct {
	t     *testing.T
	equal map[string]int
}

func (l laws) same(law string, x api.Ratio, y api.Ratio) {
	l.t.Helper()
	if x == (api.Ratio{}) || y == (api.Ratio{}) {
		return
	}
	l.equal[law]++
	if x != y {
		l.t.Fatalf("%s: %s and %s", law, x, y)
	}
}

func (l laws) tried(least int, names ...string) {
	l.t.Helper()
	for _, law := range names {
		if l.equal[law] < least {
			l.t.Errorf("%s was tried %d times only", law, l.equal[law])
		}
	}
}

func TestFractionsAreAField(t *testing.T) {
	list := append(some(7), small(3)...)
	l := laws{t, map[string]int{}}
	for a, b := range pairs(list, 5) {
		l.same("a + b", sum(a, b), sum(b, a))
		l.same("a * b", product(a, b), product(b, a))
		l.same("a - b + b", sum(difference(a, b), b), a)
		l.same("a + b - b", difference(sum(a, b), b), a)
		l.same("a / b * b", product(quotient(a, b), b), a)
		if b.Num != "0" {
			l.same("a * b / b", quotient(product(a, b), b), a)
		}
	}
	l.tried(len(list)*len(list)/20, "a + b", "a * b", "a - b + b", "a + b - b", "a / b * b", "a * b / b")
}

func TestFractionsAssociateAndDistribute(t *testing.T) {
	list := append(some(37), small(3)...)
	l := laws{t, map[string]int{}}
	for i, c := range list {
		for a, b := range pairs(list, 9+i%2) {
			l.same("a + (b + c)", sum(a, sum(b, c)), sum(sum(a, b), c))
			l.same("a * (b * c)", product(a, product(b, c)), product(product(a, b), c))
			l.same("a * (b + c)", product(a, sum(b, c)), sum(product(a, b), product(a, c)))
		}
	}
	l.tried(len(list)*len(list)*len(list)/60, "a + (b + c)", "a * (b * c)", "a * (b + c)")
}
