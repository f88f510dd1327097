package erasure_test

import (
	"math"
	"testing"

	"longliner/api"
	"longliner/erasure"
)

func TestFieldExamples(t *testing.T) {
	for _, c := range []struct{ a, b, sum, product int }{
		{83, 202, 153, 143}, {2, 128, 130, 29}, {3, 7, 4, 9}, {0, 7, 7, 0}, {1, 200, 201, 200}, {255, 255, 0, 226}, {0, 0, 0, 0},
	} {
		if s := erasure.Add(c.a, c.b); s != c.sum {
			t.Errorf("Add(%d, %d) = %d; want %d", c.a, c.b, s, c.sum)
		}
		if p := erasure.Mul(c.a, c.b); p != c.product {
			t.Errorf("Mul(%d, %d) = %d; want %d", c.a, c.b, p, c.product)
		}
	}
	for _, c := range [][2]int{{1, 1}, {2, 142}, {142, 2}} {
		if b, e := erasure.Inverse(c[0]); b != c[1] || e != api.OK {
			t.Errorf("Inverse(%d) = %d, %d; want %d", c[0], b, e, c[1])
		}
	}
}

// tables returns the sums and products of all pairs of elements, as the package computes them.
func tables() (sums [256][256]int, products [256][256]int) {
	for a := range 256 {
		for b := range 256 {
			sums[a][b] = erasure.Add(a, b)
			products[a][b] = erasure.Mul(a, b)
		}
	}
	return sums, products
}

func TestFieldFollowsItsDefinition(t *testing.T) {
	sums, products := tables()
	for a := range 256 {
		for b := range 256 {
			if sums[a][b] != a^b {
				t.Errorf("Add(%d, %d) = %d", a, b, sums[a][b])
			}
			if products[a][b] != times(a, b) {
				t.Errorf("Mul(%d, %d) = %d; want %d", a, b, products[a][b], times(a, b))
			}
		}
	}
}

// TestLaws goes through all triples of elements.
func TestLaws(t *testing.T) {
	sums, products := tables()
	for a := range 256 {
		for b := range 256 {
			if sums[a][b] != sums[b][a] || products[a][b] != products[b][a] {
				t.Fatalf("%d and %d do not commute", a, b)
			}
			for c := range 256 {
				if sums[sums[a][b]][c] != sums[a][sums[b][c]] || products[products[a][b]][c] != products[a][products[b][c]] {
					t.Fatalf("%d, %d and %d are not associative", a, b, c)
				}
				if products[a][sums[b][c]] != sums[products[a][b]][products[a][c]] {
					t.Fatalf("%d is not distributive over %d and %d", a, b, c)
				}
			}
		}
	}
}

func TestEachElementButZeroHasOneInverse(t *testing.T) {
	_, products := tables()
	for a := 1; a < 256; a++ {
		got, e := erasure.Inverse(a)
		if e != api.OK {
			t.Errorf("Inverse(%d): %d", a, e)
		}
		for b := range 256 {
			if (products[a][b] == 1) != (b == got) {
				t.Errorf("Inverse(%d) = %d, and the product of %d and %d is %d", a, got, a, b, products[a][b])
			}
		}
	}
}

func TestIntegersThatAreNoElements(t *testing.T) {
	others := []int{-1, -2, -128, -255, -256, -257, 256, 257, 511, 512, 1000, 65536 + 77, -65536 + 3, math.MaxInt, math.MaxInt - 1, math.MinInt, math.MinInt + 9}
	for _, n := range others {
		congruent := (n%256 + 256) % 256
		for _, b := range []int{0, 1, 2, 29, 255} {
			if s, r := erasure.Add(n, b), erasure.Add(b, n); s != congruent^b || r != s {
				t.Errorf("Add(%d, %d) = %d, %d; want %d", n, b, s, r, congruent^b)
			}
			if p, r := erasure.Mul(n, b), erasure.Mul(b, n); p != times(congruent, b) || r != p {
				t.Errorf("Mul(%d, %d) = %d, %d; want %d", n, b, p, r, times(congruent, b))
			}
		}
		for _, m := range others {
			if p := erasure.Mul(n, m); p != times(congruent, (m%256+256)%256) {
				t.Errorf("Mul(%d, %d) = %d", n, m, p)
			}
		}
	}
	for _, n := range append(others, 0) {
		if b, e := erasure.Inverse(n); b != 0 || e != api.ErrErasure {
			t.Errorf("Inverse(%d) = %d, %d; want ErrErasure", n, b, e)
		}
	}
}
