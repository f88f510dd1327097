package pack_test

import (
	"strings"
	"testing"

	"longliner/api"
	"longliner/pack"
)

func TestExamples(t *testing.T) {
	expectPair(t, "", "")
	expectPair(t, "abc", "\x02abc")
	expectPair(t, "aaaaaaaa", "\x00a\x83\x01")
	expectPair(t, "abcabcabc", "\x02abc\x82\x03")
	expectPair(t, "abcdabc", "\x06abcdabc")
	expectRefused(t, "\x01a")
	expectRefused(t, "\x00a\x00b")
	expectRefused(t, "\x83\x01")
}

func TestEncodeIsTheDefinedOne(t *testing.T) {
	for _, s := range samples() {
		expectPair(t, s, spelt(partsOf(s)...))
	}
}

func TestEncodeOfAllShortStrings(t *testing.T) {
	for s := range short("\x00\x01", 12) {
		expectPair(t, s, spelt(partsOf(s)...))
	}
	for s := range short("ab\xff", 8) {
		expectPair(t, s, spelt(partsOf(s)...))
	}
}

func TestSizesOfCopies(t *testing.T) {
	for size := 4; size <= 131; size++ {
		expectPair(t, strings.Repeat("a", 1+size), spelt(part{"a", 0, 0}, part{"", size, 1}))
		expectPair(t, strings.Repeat("a", 1+size)+"b", spelt(part{"a", 0, 0}, part{"", size, 1}, part{"b", 0, 0}))
		s := different(size)
		expectPair(t, s+s, spelt(runs(s, part{"", size, size})...))
	}
	whole := part{"", 131, 1}
	for rest := range 132 {
		parts := []part{{"a", 0, 0}, whole, whole}
		switch {
		case rest >= 4:
			parts = append(parts, part{"", rest, 1})
		case rest > 0:
			parts = append(parts, part{strings.Repeat("a", rest), 0, 0})
		}
		expectPair(t, strings.Repeat("a", 263+rest), spelt(parts...))
	}
	expectPair(t, "aaaa", "\x03aaaa")
	expectPair(t, "abcabc", "\x05abcabc")
}

// runs returns the runs of s, whose 4 bytes are not repeated, and then the others.
func runs(s string, others ...part) []part {
	parts := []part{}
	for s != "" {
		n := min(128, len(s))
		parts = append(parts, part{s[:n], 0, 0})
		s = s[n:]
	}
	return append(parts, others...)
}

func TestSizesOfRuns(t *testing.T) {
	for n := 1; n <= 600; n++ {
		s := different(n)
		expectPair(t, s, spelt(runs(s)...))
		if n >= 4 && n <= 255 { // a copy ends a run of any size, and a run of 128 bytes is no part of the next one
			expectPair(t, s+s[:4], spelt(runs(s, part{"", 4, n})...))
		}
	}
	expectPair(t, "aaaaab", spelt(part{"a", 0, 0}, part{"", 4, 1}, part{"b", 0, 0}))
	expectPair(t, "aaaaabaaaa", spelt(part{"a", 0, 0}, part{"", 4, 1}, part{"b", 0, 0}, part{"", 4, 5}))
	long := different(128)
	expectPair(t, "\xf0\xf0\xf0\xf0\xf0"+long, spelt(part{"\xf0", 0, 0}, part{"", 4, 1}, part{long, 0, 0}))
}

func TestDistances(t *testing.T) {
	for distance := 4; distance <= 300; distance++ {
		filler := different(distance - 4)
		s := "\xf0\xf5\xf1\xf9" + filler + "\xf0\xf5\xf1\xf9"
		if distance <= 255 {
			expectPair(t, s, spelt(runs(s[:distance], part{"", 4, distance})...))
		} else {
			expectPair(t, s, spelt(runs(s)...))
		}
	}
}

// TestTheGreatestMatchIsTaken: it may be farther away than another one, or nearer.
func TestTheGreatestMatchIsTaken(t *testing.T) {
	expectPair(t, "abcdexabcdyabcde", spelt(part{"abcdex", 0, 0}, part{"", 4, 6}, part{"y", 0, 0}, part{"", 5, 11}))
	expectPair(t, "abcdxabcdeyabcde", spelt(part{"abcdx", 0, 0}, part{"", 4, 5}, part{"ey", 0, 0}, part{"", 5, 6}))
	expectPair(t, "abcdexabcdyabcdz", spelt(part{"abcdex", 0, 0}, part{"", 4, 6}, part{"y", 0, 0}, part{"", 4, 5}, part{"z", 0, 0}))
}

// TestTheNearestMatchIsTaken of those that are equally great.
func TestTheNearestMatchIsTaken(t *testing.T) {
	expectPair(t, "abcdxabcdyabcd", spelt(part{"abcdx", 0, 0}, part{"", 4, 5}, part{"y", 0, 0}, part{"", 4, 5}))
	expectPair(t, "abababab", spelt(part{"ab", 0, 0}, part{"", 6, 2}))
	expectPair(t, strings.Repeat("a", 400), spelt(part{"a", 0, 0}, part{"", 131, 1}, part{"", 131, 1}, part{"", 131, 1}, part{"", 6, 1}))
}

// TestTheFirstMatchIsTaken, though the one at the next place is greater.
func TestTheFirstMatchIsTaken(t *testing.T) {
	expectPair(t, "abcdxbcdefgyabcdefg", spelt(part{"abcdxbcdefgy", 0, 0}, part{"", 4, 12}, part{"efg", 0, 0}))
}

func TestEncodeRefusesWhatIsTooLong(t *testing.T) {
	for _, n := range []int{4097, 4098, 8192, 65535, 65536, 65537, 1 << 24} {
		for _, s := range []string{strings.Repeat("a", n), strings.Repeat("cod 40; ", n)[:n], different(n)} {
			if code, e := pack.Encode(s); code != "" || e != api.ErrPack {
				t.Errorf("Encode of %d bytes = %.30x, %d; want ErrPack", n, code, e)
			}
		}
	}
	for _, n := range []int{4094, 4095, 4096} {
		expectPair(t, different(n), spelt(runs(different(n))...))
	}
}

// TestTheSameAgain: nothing is kept from call to call.
func TestTheSameAgain(t *testing.T) {
	for _, s := range []string{"abcdabcd", "abcd", "", "abcdabcd", different(300), "abcdabcd"} {
		code := encoded(t, s)
		expectRefused(t, code+"\x00")
		if _, e := pack.Encode(different(4097)); e != api.ErrPack {
			t.Error(e)
		}
		expectPair(t, s, code)
	}
}
