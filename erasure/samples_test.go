package erasure_test

import (
	"encoding/binary"
	"math/rand/v2"
	"slices"
	"strings"
	"testing"

	"longliner/api"
	"longliner/erasure"
)

// times multiplies two polynomials bit by bit, and reduces the product from its highest bit on.
func times(a int, b int) int {
	product := 0
	for i := range 8 {
		if b>>i&1 == 1 {
			product ^= a << i
		}
	}
	for i := 15; i >= 8; i-- {
		if product>>i&1 == 1 {
			product ^= 0b100011101 << (i - 8)
		}
	}
	return product
}

// inverse tries all elements.
func inverse(a int) int {
	for b := range 256 {
		if times(a, b) == 1 {
			return b
		}
	}
	return 0
}

// valueAt returns the value at x of the only polynomial whose values at the points are the given ones: it solves the linear equations for the coefficients.
func valueAt(points []int, values []int, x int) int {
	n := len(points)
	rows := make([][]int, n)
	for i, p := range points {
		power := 1
		for range n {
			rows[i] = append(rows[i], power)
			power = times(power, p)
		}
		rows[i] = append(rows[i], values[i])
	}
	for c := range n {
		pivot := c
		for rows[pivot][c] == 0 {
			pivot++
		}
		rows[c], rows[pivot] = rows[pivot], rows[c]
		factor := inverse(rows[c][c])
		for k := range rows[c] {
			rows[c][k] = times(rows[c][k], factor)
		}
		for r := range n {
			by := rows[r][c]
			for k := range rows[r] {
				if r != c {
					rows[r][k] ^= times(by, rows[c][k])
				}
			}
		}
	}
	value := 0
	for k := n - 1; k >= 0; k-- {
		value = times(value, x) ^ rows[k][n]
	}
	return value
}

// frameOf returns the frame as the chapter says it; 2 n is spelt in groups of 7 bits, of which a length of at most 4096 has at most two.
func frameOf(s string, need int) string {
	frame := string(binary.AppendUvarint(nil, uint64(2*len(s)))) + s
	for len(frame)%need > 0 {
		frame += "\x00"
	}
	return frame
}

// chunksOf returns the chunks of a frame as the chapter defines them, column by column.
func chunksOf(frame string, need int, count int) []api.Chunk {
	points := []int{}
	for i := range need {
		points = append(points, i)
	}
	chunks := make([]api.Chunk, count)
	for i := range chunks {
		chunks[i].Index = i
		for at := 0; at < len(frame); at += need {
			column := []int{}
			for _, b := range []byte(frame[at : at+need]) {
				column = append(column, int(b))
			}
			chunks[i].Data += string([]byte{byte(valueAt(points, column, i))})
		}
	}
	return chunks
}

// parameters yields all valid parameters.
func parameters(yield func(int, int) bool) {
	for count := 1; count <= 16; count++ {
		for need := 1; need <= count; need++ {
			if !yield(need, count) {
				return
			}
		}
	}
}

// noise returns n bytes that follow no rule.
func noise(r *rand.Rand, n int) string {
	b := make([]byte, n)
	for i := range b {
		b[i] = byte(r.Uint32())
	}
	return string(b)
}

// dice returns a source of numbers that are the same in each run.
func dice() *rand.Rand {
	return rand.New(rand.NewPCG(6, 6))
}

// texts returns strings whose frames end at different places of a column, or look like other frames.
func texts() []string {
	l := []string{"", "\x00", "\x00\x00\x00", "a", "ab", "\x04ab", "cod 40; hake 7; cod 12", "\x80\x00", "\xff\xff\xff\xff\xff\xff\xff", strings.Repeat("\x00", 40)}
	r := dice()
	for _, n := range []int{15, 16, 17, 61, 62, 63, 64, 65, 66, 100} {
		l = append(l, noise(r, n))
	}
	return l
}

// encoded returns the chunks of s.
func encoded(t *testing.T, s string, need int, count int) []api.Chunk {
	t.Helper()
	l, e := erasure.Encode(s, need, count)
	if e != api.OK || len(l) != count {
		t.Fatalf("Encode(%.30q, %d, %d): %d chunks, %d", s, need, count, len(l), e)
	}
	return l
}

// some returns the chunks whose indices are the bits of mask, in an order that r chooses.
func some(r *rand.Rand, l []api.Chunk, mask int) []api.Chunk {
	chosen := []api.Chunk{}
	for _, c := range l {
		if mask>>c.Index&1 == 1 {
			chosen = append(chosen, c)
		}
	}
	r.Shuffle(len(chosen), func(i int, j int) { chosen[i], chosen[j] = chosen[j], chosen[i] })
	return chosen
}

// with returns l with another chunk in the place i.
func with(l []api.Chunk, i int, c api.Chunk) []api.Chunk {
	changed := slices.Clone(l)
	changed[i] = c
	return changed
}

func expectDecoded(t *testing.T, chunks []api.Chunk, need int, count int, s string) {
	t.Helper()
	if got, e := erasure.Decode(chunks, need, count); got != s || e != api.OK {
		t.Errorf("Decode(%.200v, %d, %d) = %.30q, %d; want %.30q", chunks, need, count, got, e, s)
	}
}

func expectRefused(t *testing.T, chunks []api.Chunk, need int, count int) {
	t.Helper()
	if s, e := erasure.Decode(chunks, need, count); s != "" || e != api.ErrErasure {
		t.Errorf("Decode(%.200v, %d, %d) = %.30q, %d; want ErrErasure", chunks, need, count, s, e)
	}
	if erasure.Consistent(chunks, need, count) {
		t.Errorf("Consistent(%.200v, %d, %d)", chunks, need, count)
	}
}
