package pack_test

import (
	"math/rand/v2"
	"strings"
	"testing"

	"longliner/api"
	"longliner/pack"
)

// part is a run, or, if its distance is not 0, a copy.
type part struct {
	run      string
	size     int
	distance int
}

// longest returns the greatest match at a place of s and its distance, as the chapter defines them: it tries all sizes from the greatest one down, and all distances from the least one up.
func longest(s string, place int) (int, int) {
	for size := min(131, len(s)-place); size > 0; size-- {
		for distance := 1; distance <= 255 && distance <= place; distance++ {
			if s[place:place+size] == s[place-distance:place-distance+size] {
				return size, distance
			}
		}
	}
	return 0, 0
}

// partsOf returns the pieces of the encoding of s, as the chapter finds them.
func partsOf(s string) []part {
	parts := []part{}
	for place := 0; place < len(s); {
		last := len(parts) - 1
		size, distance := longest(s, place)
		switch {
		case size >= 4:
			parts = append(parts, part{"", size, distance})
			place += size - 1
		case last >= 0 && parts[last].distance == 0 && len(parts[last].run) < 128:
			parts[last].run += s[place : place+1]
		default:
			parts = append(parts, part{s[place : place+1], 0, 0})
		}
		place++
	}
	return parts
}

// spelt returns the bytes of pieces.
func spelt(parts ...part) string {
	code := ""
	for _, p := range parts {
		if p.distance > 0 {
			code += string([]byte{byte(124 + p.size), byte(p.distance)})
		} else {
			code += string([]byte{byte(len(p.run) - 1)}) + p.run
		}
	}
	return code
}

// split returns the pieces of which code consists, and whether it consists of pieces.
func split(code string) ([]part, bool) {
	parts := []part{}
	for code != "" {
		size := 2
		if code[0] < 128 {
			size += int(code[0])
		}
		switch {
		case len(code) < size:
			return nil, false
		case code[0] < 128:
			parts = append(parts, part{code[1:size], 0, 0})
		case code[1] == 0:
			return nil, false
		default:
			parts = append(parts, part{"", int(code[0]) - 124, int(code[1])})
		}
		code = code[size:]
	}
	return parts, true
}

// joined returns the string for which pieces stand, and whether they stand for one of at most 4096 bytes.
func joined(parts []part) (string, bool) {
	s := []byte{}
	for _, p := range parts {
		if p.distance > len(s) {
			return "", false
		}
		s = append(s, p.run...)
		for range p.size {
			s = append(s, s[len(s)-p.distance])
		}
	}
	return string(s), len(s) <= 4096
}

// decoded returns the string whose encoding is code, and whether there is one.
func decoded(code string) (string, bool) {
	parts, ok := split(code)
	if !ok {
		return "", false
	}
	s, ok := joined(parts)
	return s, ok && spelt(partsOf(s)...) == code
}

// dice returns a source of numbers that are the same in each run.
func dice() *rand.Rand {
	return rand.New(rand.NewPCG(7, 7))
}

// noise returns n bytes below the bound that follow no rule.
func noise(r *rand.Rand, n int, bound int) string {
	b := make([]byte, n)
	for i := range b {
		b[i] = byte(r.IntN(bound))
	}
	return string(b)
}

// patched returns n bytes: some are copied from anywhere before, the others are noise.
func patched(r *rand.Rand, n int) string {
	s := ""
	for len(s) < n {
		s += noise(r, r.IntN(7), 256)
		if from := max(0, len(s)-1-r.IntN(300)); from < len(s) {
			unit := s[from:min(len(s), from+1+r.IntN(12))]
			s += strings.Repeat(unit, 1+r.IntN(3)*r.IntN(15))
		}
	}
	return s[:n]
}

// different returns n bytes of which each one occurs again only 256 places farther on.
func different(n int) string {
	b := make([]byte, n)
	for i := range b {
		b[i] = byte(i)
	}
	return string(b)
}

// samples returns strings of many sizes and kinds.
func samples() []string {
	r := dice()
	l := []string{}
	for _, n := range []int{0, 1, 2, 3, 4, 5, 6, 7, 8, 9, 40, 127, 128, 129, 130, 131, 132, 133, 134, 135, 136, 255, 256, 257, 258, 259, 260, 261, 263, 266, 394, 511, 513, 700} {
		for _, bound := range []int{1, 2, 3, 4, 6, 16, 256} {
			l = append(l, noise(r, n, bound))
		}
		l = append(l, different(n), patched(r, n), patched(r, n), strings.Repeat("cod 40; ", n/8), strings.Repeat(noise(r, 1+r.IntN(300), 256), 3))
	}
	return append(l, noise(r, 4096, 2), noise(r, 4096, 256), noise(r, 4095, 5), different(4096), strings.Repeat("\x00", 4096), patched(r, 3800))
}

// short yields all strings of at most n bytes of the alphabet, the shorter ones first.
func short(alphabet string, n int) func(func(string) bool) {
	return func(yield func(string) bool) {
		queue := []string{""}
		for len(queue) > 0 {
			s := queue[0]
			queue = queue[1:]
			if !yield(s) {
				return
			}
			for i := range len(alphabet) {
				if len(s) < n {
					queue = append(queue, s+alphabet[i:i+1])
				}
			}
		}
	}
}

// encoded returns the encoding of s, which has one.
func encoded(t *testing.T, s string) string {
	t.Helper()
	code, e := pack.Encode(s)
	if e != api.OK {
		t.Fatalf("Encode(%.40q): %d", s, e)
	}
	return code
}

// expectPair checks that code is the encoding of s.
func expectPair(t *testing.T, s string, code string) {
	t.Helper()
	if got, e := pack.Encode(s); got != code || e != api.OK {
		t.Errorf("Encode(%.80q), of %d bytes, = %.80x, %d; want %.80x", s, len(s), got, e, code)
	}
	if got, e := pack.Decode(code); got != s || e != api.OK {
		t.Errorf("Decode(%.80x), of %d bytes, = %.80q, %d; want %.80q", code, len(code), got, e, s)
	}
}

// expectRefused checks that code is no encoding.
func expectRefused(t *testing.T, code string) {
	t.Helper()
	if got, e := pack.Decode(code); got != "" || e != api.ErrPack {
		t.Errorf("Decode(%.80x), of %d bytes, = %.80q, %d; want ErrPack", code, len(code), got, e)
	}
}

// expectJudged checks what Decode says of a string of which the caller does not know whether it is an encoding.
func expectJudged(t *testing.T, code string) bool {
	t.Helper()
	s, ok := decoded(code)
	if !ok {
		expectRefused(t, code)
		return false
	}
	expectPair(t, s, code)
	return true
}
