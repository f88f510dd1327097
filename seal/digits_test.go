package seal

import (
	"math/rand/v2"
	"strings"
	"testing"
)

// TestDigits: no message is known whose digest is as the chapter's example says, so that the digits are taken from digests here.
func TestDigits(t *testing.T) {
	for _, x := range []struct {
		sum  string
		want counts
	}{
		{"\xff\xff\xff\xff\xff\xff\xff\x0f", counts{15, 15, 15, 15, 15, 15, 15, 15, 15, 15, 15, 15, 15, 15, 0, 15, 0, 15}},
		{"\xff\xff\xff\xff\xff\xff\xff\xff", counts{15, 15, 15, 15, 15, 15, 15, 15, 15, 15, 15, 15, 15, 15, 15, 15, 0, 0}},
		{"\xff\xff\xff\xff\xff\xff\xff\xf0", counts{15, 15, 15, 15, 15, 15, 15, 15, 15, 15, 15, 15, 15, 15, 15, 0, 0, 15}},
		{"\xff\xff\xff\xff\xff\xff\xff\x0e", counts{15, 15, 15, 15, 15, 15, 15, 15, 15, 15, 15, 15, 15, 15, 0, 14, 1, 0}},
		{"\x00\x00\x00\x00\x00\x00\x00\x00", counts{16: 15, 17: 0}},
		{"\x01\x00\x00\x00\x00\x00\x00\x00", counts{1: 1, 16: 14, 17: 15}},
		{"\x12\x34\x56\x78\x9a\xbc\xde\xf0", counts{1, 2, 3, 4, 5, 6, 7, 8, 9, 10, 11, 12, 13, 14, 15, 0, 7, 8}},
	} {
		for _, rest := range []string{"\x00", "\xff"} {
			if got := digits(x.sum + strings.Repeat(rest, 24)); got != x.want {
				t.Errorf("digits of %x = %v; want %v", x.sum, got, x.want)
			}
		}
	}
}

// TestDigitsGoBothWays: also where all the digits of one digest are at least those of another, as in half of the pairs that are made here.
func TestDigitsGoBothWays(t *testing.T) {
	r := rand.New(rand.NewPCG(8, 88))
	for n := range 200000 {
		a, b := make([]byte, 32), make([]byte, 32)
		for i := range a {
			a[i] = byte(r.Uint32())
			b[i] = byte(r.Uint32())
			if n%4 == 0 {
				b[i] = a[i]
			}
		}
		at, bit := r.IntN(8), r.IntN(8)
		a[at] |= 1 << bit
		b[at] &^= 1 << bit
		if n%4 == 1 {
			for i := range a {
				b[i] &= a[i]
			}
		}
		expectBothWays(t, digits(string(a)), digits(string(b)))
	}
}

func expectBothWays(t *testing.T, a counts, b counts) {
	t.Helper()
	less, more := 0, 0
	for i := range a {
		if a[i] < b[i] {
			less++
		}
		if a[i] > b[i] {
			more++
		}
	}
	if less == 0 || more == 0 {
		t.Errorf("the digits %v and %v go one way", a, b)
	}
}
