package rational_test

import (
	"cmp"
	"slices"
	"testing"

	"longliner/api"
	"longliner/rational"
)

// compares checks Compare of a and b.
func compares(t *testing.T, a api.Ratio, b api.Ratio) {
	t.Helper()
	if got, want := rational.Compare(a, b), value(a).Cmp(value(b)); got != want {
		t.Fatalf("%s = %d", named("Compare", a, b), got)
	}
}

func TestCompareIsTheOrderOfTheValues(t *testing.T) {
	for a, b := range pairs(samples(), 31) {
		compares(t, a, b)
	}
	for a, b := range pairs(small(12), 1) {
		compares(t, a, b)
	}
}

// Fractions of 200 digits beside each other differ by so little that only the last step tells.
func TestCompareTellsNeighboursApart(t *testing.T) {
	list := neighbours()
	for i := range 4 {
		list = append(list, of(mixed(200, i), mixed(200, i+1)), of(mixed(200, i), mixed(100, i)))
	}
	for _, r := range list {
		for _, other := range around(r) {
			compares(t, r, other)
			compares(t, other, r)
		}
	}
}

// around returns r and the fractions whose integers are 1 at most away from those of r, with both signs.
func around(r api.Ratio) []api.Ratio {
	list := []api.Ratio{}
	for i := int64(-1); i <= 1; i++ {
		for k := int64(-1); k <= 1; k++ {
			n, d := moved(r.Num, i), moved(r.Den, k)
			if n.Sign() > 0 && d.Sign() > 0 && fits(n, d) {
				list = append(list, of(n.String(), d.String()), of("-"+n.String(), d.String()))
			}
		}
	}
	return list
}

func TestCompareIsATotalOrder(t *testing.T) {
	list := append(some(13), small(5)...)
	slices.SortFunc(list, rational.Compare)
	list = slices.Compact(list)
	for i, a := range list {
		for k, b := range list {
			if got := rational.Compare(a, b); got != cmp.Compare(i, k) {
				t.Fatalf("%s = %d", named("Compare", a, b), got)
			}
		}
	}
}

func TestCompareIsTheSignOfTheDifference(t *testing.T) {
	zero := of("0", "1")
	tried := 0
	for a, b := range pairs(samples(), 61) {
		if d := difference(a, b); d != (api.Ratio{}) {
			tried++
			if rational.Compare(a, b) != rational.Compare(d, zero) {
				t.Fatalf("%s = %d; the difference is %s", named("Compare", a, b), rational.Compare(a, b), d)
			}
		}
	}
	if tried < 500 {
		t.Errorf("only %d differences were tried", tried)
	}
}

func TestCompareIsKept(t *testing.T) {
	list := append(some(37), small(3)...)
	kept := map[string]int{}
	keeps := func(how string, a api.Ratio, b api.Ratio, x api.Ratio, y api.Ratio) {
		if x == (api.Ratio{}) || y == (api.Ratio{}) {
			return
		}
		kept[how]++
		if rational.Compare(a, b) != rational.Compare(x, y) {
			t.Fatalf("%s = %d; with %s it is %d", named("Compare", a, b), rational.Compare(a, b), how, rational.Compare(x, y))
		}
	}
	for i, c := range list {
		for a, b := range pairs(list, 5+i%2) {
			keeps("the same added", a, b, sum(a, c), sum(b, c))
			if c.Num[0] != '-' && c.Num != "0" {
				keeps("the same multiplied", a, b, product(a, c), product(b, c))
			}
		}
	}
	if all := len(list) * len(list) * len(list); kept["the same added"] < all/30 || kept["the same multiplied"] < all/60 {
		t.Errorf("only %v of %d were tried", kept, all)
	}
}

func TestCompareOfInvalidFractions(t *testing.T) {
	for _, r := range invalid {
		for _, other := range append(some(20), r, of("-"+most, "1"), of("5", "1")) {
			if x, y := rational.Compare(r, other), rational.Compare(other, r); x != 0 || y != 0 {
				t.Errorf("%.300s = %d, and %d the other way", named("Compare", r, other), x, y)
			}
		}
	}
}

func TestCompareExamples(t *testing.T) {
	for _, c := range []struct {
		a, b api.Ratio
		want int
	}{{of("1", "3"), of("33333", "100000"), 1}, {of("-1", "2"), of("-1", "3"), -1}, {of("0", "1"), of("0", "1"), 0}, {of("1", "1"), of("1", "1"), 0}, {of("-1", most), of("0", "1"), -1}, {of("1", most), of("1", most[1:]), -1}} {
		if got := rational.Compare(c.a, c.b); got != c.want {
			t.Errorf("%s = %d", named("Compare", c.a, c.b), got)
		}
	}
}
