package rational_test

import (
	"math"
	"math/big"
	"strings"
	"testing"

	"longliner/api"
	"longliner/integer"
	"longliner/rational"
)

func TestValidIsInLowestTerms(t *testing.T) {
	for n := int64(-40); n <= 40; n++ {
		for d := int64(-40); d <= 40; d++ {
			r := api.Ratio{Num: big.NewInt(n).String(), Den: big.NewInt(d).String()}
			want := d > 0 && new(big.Int).GCD(nil, nil, big.NewInt(max(n, -n)), big.NewInt(d)).Int64() == 1
			if got := rational.Valid(r); got != want {
				t.Errorf("%s: %v", named("Valid", r), got)
			}
		}
	}
	for _, r := range samples() {
		if !rational.Valid(r) {
			t.Errorf("%s is false", named("Valid", r))
		}
	}
	for _, r := range invalid {
		if rational.Valid(r) {
			t.Errorf("%.300s is true", named("Valid", r))
		}
	}
}

func TestValidAllowsTwoHundredDigits(t *testing.T) {
	for n := 190; n <= 210; n++ {
		for _, r := range []api.Ratio{{Num: ten(n - 1), Den: "1"}, {Num: "-" + ten(n-1), Den: "3"}, {Num: "1", Den: ten(n - 1)}, {Num: mixed(n, n), Den: ten(180)}} {
			if got := rational.Valid(r); got != (n <= api.MaxDigits) {
				t.Errorf("%s: %v", named("Valid", r), got)
			}
		}
	}
}

// makes checks what Make returns for n and d, of which d is not 0.
func makes(t *testing.T, n string, d string) {
	t.Helper()
	r, e := rational.Make(n, d)
	returns(t, "Make("+n+", "+d+")", r, e, of(n, d))
}

func TestMakeReduces(t *testing.T) {
	for n := -60; n <= 60; n++ {
		for d := -60; d <= 60; d++ {
			if d != 0 {
				makes(t, integer.FromInt(n), integer.FromInt(d))
			}
		}
	}
	list := []string{"1", "-1", "6", most, "-" + most, power, "-" + power, most[:100], ten(100), "-" + mixed(200, 1), mixed(200, 2), mixed(100, 3), "-" + mixed(77, 1)}
	for _, n := range append(list, "0") {
		for _, d := range list {
			makes(t, n, d)
		}
	}
}

func TestMakeReducesMultiples(t *testing.T) {
	for i, r := range small(9) {
		for n := 1; n < api.MaxDigits; n += 13 {
			factor := mixed(n, n+i)
			for _, sign := range []string{"", "-"} {
				num := new(big.Int).Mul(number(r.Num), number(sign+factor)).String()
				den := new(big.Int).Mul(number(r.Den), number(sign+factor)).String()
				made, e := rational.Make(num, den)
				returns(t, "Make("+num+", "+den+")", made, e, r)
			}
		}
	}
}

func TestMakeRefuses(t *testing.T) {
	for _, n := range []string{"0", "1", "-7", most} {
		r, e := rational.Make(n, "0")
		refused(t, "Make("+n+", 0)", r, e)
		for _, s := range []string{"", "-", "-0", "00", "01", "+1", "1.5", "1/2", " 1", "x", most + "0", "-" + ten(200), strings.Repeat("1", 1<<20)} {
			r, e = rational.Make(n, s)
			refused(t, "Make("+n+", "+s+")", r, e)
			r, e = rational.Make(s, n)
			refused(t, "Make("+s+", "+n+")", r, e)
			r, e = rational.Make(s, s)
			refused(t, "Make("+s+", "+s+")", r, e)
		}
	}
}

func TestOf(t *testing.T) {
	list := []int{math.MinInt, math.MinInt + 1, -1 << 32, -360, -7, -1, 1, 2, 12, 84, 1 << 40, math.MaxInt - 1, math.MaxInt}
	for _, n := range append(list, 0) {
		for _, d := range list {
			r, e := rational.Of(n, d)
			returns(t, "Of("+integer.FromInt(n)+", "+integer.FromInt(d)+")", r, e, of(integer.FromInt(n), integer.FromInt(d)))
		}
		r, e := rational.Of(n, 0)
		refused(t, "Of("+integer.FromInt(n)+", 0)", r, e)
	}
}

func TestMakeExamples(t *testing.T) {
	for _, c := range []struct {
		n, d int
		want api.Ratio
	}{{6, -4, api.Ratio{Num: "-3", Den: "2"}}, {0, -5, api.Ratio{Num: "0", Den: "1"}}, {-6, -4, api.Ratio{Num: "3", Den: "2"}}, {5, 5, api.Ratio{Num: "1", Den: "1"}}, {5, -5, api.Ratio{Num: "-1", Den: "1"}}, {0, 7, api.Ratio{Num: "0", Den: "1"}}} {
		r, e := rational.Of(c.n, c.d)
		returns(t, "Of("+integer.FromInt(c.n)+", "+integer.FromInt(c.d)+")", r, e, c.want)
	}
}
