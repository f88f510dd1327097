package integer_test

import (
	"testing"

	"longliner/integer"
)

func TestCompareIsTheOrderOfTheNumbers(t *testing.T) {
	list := samples()
	for _, a := range list {
		for _, b := range list {
			if got, want := integer.Compare(a, b), number(t, a).Cmp(number(t, b)); got != want {
				t.Fatalf("Compare(%s, %s) = %d", a, b, got)
			}
		}
	}
	for a := -130; a <= 130; a++ {
		for b := -130; b <= 130; b++ {
			if got := integer.Compare(integer.FromInt(a*1000), integer.FromInt(b*1000)); got != sign(a-b) {
				t.Fatalf("Compare(%d000, %d000) = %d", a, b, got)
			}
		}
	}
}

// sign returns -1, 0 or 1 as n is negative, 0 or positive.
func sign(n int) int {
	switch {
	case n < 0:
		return -1
	case n > 0:
		return 1
	}
	return 0
}

func TestCompareIsTheSignOfTheDifference(t *testing.T) {
	list := some()
	for _, a := range list {
		for _, b := range list {
			if d := difference(a, b); d != "" && integer.Compare(a, b) != integer.Compare(d, "0") {
				t.Fatalf("Compare(%s, %s) = %d; the difference is %s", a, b, integer.Compare(a, b), d)
			}
		}
	}
}

func TestCompareIsKeptByAddingTheSame(t *testing.T) {
	list := some()
	for i, a := range list {
		for j, b := range list {
			for k := (i + j) % 7; k < len(list); k += 7 {
				x, y := sum(a, list[k]), sum(b, list[k])
				if x != "" && y != "" && integer.Compare(x, y) != integer.Compare(a, b) {
					t.Fatalf("Compare(%s, %s) = %d; with %s added it is %d", a, b, integer.Compare(a, b), list[k], integer.Compare(x, y))
				}
			}
		}
	}
}
