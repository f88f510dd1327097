package rational_test

import (
	"math"
	"math/big"
	"strconv"
	"testing"

	"longliner/api"
	"longliner/rational"
)

// moved returns the number s plus i.
func moved(s string, i int64) *big.Int {
	return new(big.Int).Add(number(s), big.NewInt(i))
}

// rounds checks Down and Up of r, and reports whether they returned fractions.
func rounds(t *testing.T, r api.Ratio, places int) bool {
	t.Helper()
	down, e := rational.Down(r, places)
	up, f := rational.Up(r, places)
	scale := number(ten(places))
	scaled := new(big.Int).Mul(number(r.Num), scale)
	call := named("rounding to "+strconv.Itoa(places)+" places", r)
	if !fits(scaled) {
		refused(t, call, down, e)
		refused(t, call, up, f)
		return false
	}
	least, rest := new(big.Int).DivMod(scaled, number(r.Den), new(big.Int))
	returns(t, call, down, e, written(new(big.Rat).SetFrac(least, scale)))
	if rest.Sign() != 0 {
		least.Add(least, big.NewInt(1))
	}
	returns(t, call, up, f, written(new(big.Rat).SetFrac(least, scale)))
	return true
}

func TestRoundingIsExact(t *testing.T) {
	tried, done := 0, 0
	for places := range api.MaxPlaces + 1 {
		for i, r := range samples() {
			if i%11 != places%11 {
				continue
			}
			tried++
			if rounds(t, r, places) {
				done++
			}
		}
		for _, r := range small(12) {
			if !rounds(t, r, places) {
				t.Errorf("%s is refused", named("rounding", r))
			}
		}
	}
	if done < tried/2 || done == tried {
		t.Errorf("%d of %d were not too large", done, tried)
	}
}

func TestRoundingNearMultiples(t *testing.T) {
	for places := range api.MaxPlaces + 1 {
		for _, m := range []string{"0", "1", "-1", "5", "10", "-17", ten(places), "-" + ten(places), mixed(60, places), "-" + mixed(60, places)} {
			for _, d := range []string{ten(20), ten(110), mixed(90, places)} {
				n := new(big.Int).Mul(number(m), number(d))
				for i := int64(-1); i <= 1; i++ {
					near := new(big.Int).Add(n, big.NewInt(i)).String()
					if !rounds(t, of(near, new(big.Int).Mul(number(ten(places)), number(d)).String()), places) {
						t.Errorf("%s is refused", near)
					}
				}
			}
		}
	}
}

func TestRoundingMayNotBeTooLarge(t *testing.T) {
	for places := range api.MaxPlaces + 1 {
		for digits := api.MaxDigits - api.MaxPlaces - 1; digits <= api.MaxDigits; digits++ {
			for _, d := range []string{"1", "7", mixed(40, 1)} {
				for _, sign := range []string{"", "-"} {
					r := of(sign+ten(digits-1), d)
					if rounds(t, r, places) != (digits+places <= api.MaxDigits) {
						t.Errorf("%s", named("rounding to "+strconv.Itoa(places)+" places", r))
					}
				}
			}
		}
	}
}

func TestRoundingBounds(t *testing.T) {
	for _, list := range [][]api.Ratio{samples(), small(7)} {
		for i, r := range list {
			places := i % (api.MaxPlaces + 1)
			down, e := rational.Down(r, places)
			up, f := rational.Up(r, places)
			if e == api.OK && f == api.OK {
				bounds(t, r, places, down, up)
			}
		}
	}
}

// bounds checks that the value of r is between down and up, which are multiples of 1 / scale as close to each other as can be.
func bounds(t *testing.T, r api.Ratio, places int, down api.Ratio, up api.Ratio) {
	t.Helper()
	scale := new(big.Rat).SetInt(number(ten(places)))
	multiple := func(r api.Ratio) bool { return new(big.Rat).Mul(value(r), scale).IsInt() }
	apart := new(big.Rat).Sub(value(up), value(down))
	if !multiple(down) || !multiple(up) || value(down).Cmp(value(r)) > 0 || value(up).Cmp(value(r)) < 0 {
		t.Fatalf("%s is between %s and %s for %d places", named("the value", r), down, up, places)
	}
	if (down == up) != multiple(r) || down != up && apart.Mul(apart, scale).Cmp(big.NewRat(1, 1)) != 0 {
		t.Fatalf("%s has the bounds %s and %s for %d places", named("the value", r), down, up, places)
	}
	for _, rounded := range []api.Ratio{down, up} {
		again, e := rational.Down(rounded, places)
		and, f := rational.Up(rounded, places)
		if e == api.OK && again != rounded || f == api.OK && and != rounded || e != f {
			t.Fatalf("%s again: %s and %s", named("rounding", rounded), again, and)
		}
	}
	zero := of("0", "1")
	mirrored, e := rational.Down(difference(zero, r), places)
	if e != api.OK || difference(zero, mirrored) != up {
		t.Fatalf("%s for %d places: %s and %s", named("rounding minus", r), places, mirrored, up)
	}
}

func TestRoundingRefuses(t *testing.T) {
	for _, places := range []int{math.MinInt, -31, -1, api.MaxPlaces + 1, 199, 1 << 32, math.MaxInt} {
		for _, r := range append(some(20), of("0", "1")) {
			down, e := rational.Down(r, places)
			refused(t, named("Down", r), down, e)
			up, e := rational.Up(r, places)
			refused(t, named("Up", r), up, e)
		}
	}
	for _, r := range invalid {
		for _, places := range []int{-1, 0, 2, api.MaxPlaces} {
			down, e := rational.Down(r, places)
			refused(t, named("Down", r), down, e)
			up, e := rational.Up(r, places)
			refused(t, named("Up", r), up, e)
		}
	}
}

func TestRoundingExamples(t *testing.T) {
	for _, c := range []struct {
		r, down, up api.Ratio
		places      int
	}{
		{of("1", "3"), of("33", "100"), of("17", "50"), 2}, {of("-1", "3"), of("-17", "50"), of("-33", "100"), 2}, {of("7", "1"), of("7", "1"), of("7", "1"), 3}, {of("0", "1"), of("0", "1"), of("0", "1"), 30},
		{of("1", most), of("0", "1"), of("1", ten(30)), 30}, {of("-1", most), of("-1", "1"), of("0", "1"), 0}, {of("5", "2"), of("2", "1"), of("3", "1"), 0}, {of("-5", "2"), of("-3", "1"), of("-2", "1"), 0}, {of(most, "1"), of(most, "1"), of(most, "1"), 0},
	} {
		down, e := rational.Down(c.r, c.places)
		returns(t, named("Down", c.r), down, e, c.down)
		up, e := rational.Up(c.r, c.places)
		returns(t, named("Up", c.r), up, e, c.up)
	}
}
