package wire_test

import (
	"strings"
	"testing"

	"longliner/wire"
)

// register returns the checksum of s as the chapter defines it, bit by bit.
func register(s string) int {
	r := uint32(0xFFFFFFFF)
	for i := range len(s) {
		r ^= uint32(s[i])
		for range 8 {
			out := r & 1
			r >>= 1
			if out == 1 {
				r ^= 0x82F63B78
			}
		}
	}
	return int(^r)
}

func TestSumExamples(t *testing.T) {
	ascending := make([]byte, 32)
	for i := range ascending {
		ascending[i] = byte(i)
	}
	for _, c := range []struct {
		s   string
		sum int
	}{
		{"", 0},
		{"a", 3251651376},
		{"123456789", 3808858755},
		{strings.Repeat("\x00", 32), 0x8A9136AA},
		{strings.Repeat("\xff", 32), 0x62A8AB43},
		{string(ascending), 0x46DD794E},
	} {
		if n := wire.Sum(c.s); n != c.sum {
			t.Errorf("Sum(%q) = %d; want %d", c.s, n, c.sum)
		}
	}
}

func TestSumFollowsItsDefinition(t *testing.T) {
	long := make([]byte, 3000)
	for i := range long {
		long[i] = byte(i * i / 7)
	}
	l := []string{string(long), strings.Repeat("quota", 20000)}
	for a := range 256 {
		l = append(l, string([]byte{byte(a)}), string([]byte{'x', byte(a), 0}), string(long[:a]))
	}
	for _, s := range l {
		if n := wire.Sum(s); n != register(s) || n < 0 || n > 4294967295 {
			t.Errorf("Sum(%.30q) = %d; want %d", s, n, register(s))
		}
	}
}

// changed returns s with the bits of pattern inverted, beginning with the bit first; the bits of each byte are counted from the lowest one.
func changed(s string, first int, pattern uint32) string {
	b := []byte(s)
	for i := range 32 {
		if pattern>>i&1 == 1 {
			b[(first+i)/8] ^= 1 << ((first + i) % 8)
		}
	}
	return string(b)
}

func TestSumChangesWithFewBits(t *testing.T) {
	patterns := []uint32{1, 3, 0x80000001, 0xFFFFFFFF, 0x82F63B79, 0x05EC76F1, 0x1EDC6F41, 0xAAAAAAAB, 0xDEADBEEF}
	for i := range 31 {
		patterns = append(patterns, 1<<31|1<<i, 1|2<<i)
	}
	for _, s := range []string{strings.Repeat("\x00", 12), strings.Repeat("\xff", 12), "longliner/27", strings.Repeat("hold of fish", 10)} {
		want := wire.Sum(s)
		for first := 0; first+32 <= 8*len(s); first++ {
			for _, pattern := range patterns {
				if wire.Sum(changed(s, first, pattern)) == want {
					t.Errorf("Sum(%.30q) is the same with the bits %x changed at %d", s, pattern, first)
				}
			}
		}
	}
	for _, s := range []string{"a", "ab", "abc", "abcd"} {
		for pattern := uint32(1); pattern < 1<<8; pattern++ {
			if wire.Sum(changed(s, 8*len(s)-8, pattern)) == wire.Sum(s) {
				t.Errorf("Sum(%q) is the same with the bits %x of its last byte changed", s, pattern)
			}
		}
	}
}
