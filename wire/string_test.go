package wire_test

import (
	"math"
	"strings"
	"testing"

	"longliner/api"
	"longliner/wire"
)

// texts returns strings of the lengths beside which the size of the encoded length changes, and of the greatest length, some of which look like encodings.
func texts() []string {
	l := []string{"", "\x00", "ab", "\x04ab", "\x80\x00", "\xff\xff\xff", "quota\x00quota"}
	for _, size := range []int{63, 64, 65, 127, 128, 8191, 8192, api.MaxString - 1, api.MaxString} {
		l = append(l, strings.Repeat("x", size), strings.Repeat("\x80", size))
	}
	return l
}

func expectString(t *testing.T, s string, at int, text string, next int, e api.Errno) {
	t.Helper()
	if u, after, f := wire.String(s, at); u != text || after != next || f != e {
		t.Errorf("String(%.30q, %d) = %.30q, %d, %d; want %.30q, %d, %d", s, at, u, after, f, text, next, e)
	}
}

func TestStringExamples(t *testing.T) {
	for _, c := range []struct{ text, s string }{
		{"", "\x00"}, {"a", "\x02a"}, {"ab", "\x04ab"}, {"\x00", "\x02\x00"},
		{strings.Repeat("y", 64), "\x80\x01" + strings.Repeat("y", 64)},
	} {
		if s, e := wire.PutString(c.text); s != c.s || e != api.OK {
			t.Errorf("PutString(%q) = %q, %d; want %q", c.text, s, e, c.s)
		}
		expectString(t, c.s, 0, c.text, len(c.s), api.OK)
	}
	expectString(t, "\x04abc", 0, "ab", 3, api.OK)
}

func TestStringRoundTrip(t *testing.T) {
	for _, text := range texts() {
		s, e := wire.PutString(text)
		if want := groupsOf(len(text)) + text; s != want || e != api.OK {
			t.Errorf("PutString(%.30q) = %.30q, %d; want %.30q", text, s, e, want)
		}
		for _, before := range []string{"", "\x04", "\x80\x80"} {
			for _, after := range []string{"", "\x00", "\xffabc"} {
				expectString(t, before+s+after, len(before), text, len(before)+len(s), api.OK)
			}
		}
	}
}

func TestPutStringRefuses(t *testing.T) {
	for _, size := range []int{api.MaxString + 1, api.MaxString + 2, 2 * api.MaxString} {
		if s, e := wire.PutString(strings.Repeat("x", size)); s != "" || e != api.ErrWire {
			t.Errorf("PutString of %d bytes = %.30q, %d; want ErrWire", size, s, e)
		}
	}
}

func TestStringRefusesOffsets(t *testing.T) {
	for _, s := range []string{"", "\x00", "\x04ab", "\x04a", "\x01", "\x80\x00"} {
		for _, at := range []int{-1, -2, math.MinInt, len(s) + 1, len(s) + 2, math.MaxInt} {
			expectString(t, s, at, "", 0, api.ErrArg)
		}
		expectString(t, s, len(s), "", 0, api.ErrWire)
	}
}

func TestStringRefusesStringsThatEndTooSoon(t *testing.T) {
	for _, text := range texts() {
		s := groupsOf(len(text)) + text
		for _, size := range []int{0, 1, 2, len(s) / 2, len(s) - 2, len(s) - 1} {
			if size >= 0 && size < len(s) {
				expectString(t, s[:size], 0, "", 0, api.ErrWire)
				expectString(t, "\x00"+s[:size], 1, "", 0, api.ErrWire)
			}
		}
	}
}

func TestStringRefusesLengths(t *testing.T) {
	long := strings.Repeat("x", 2*api.MaxString)
	for _, size := range []int{-1, -2, -64, -65, -api.MaxString, -api.MaxInt, api.MaxString + 1, api.MaxString + 2, 2 * api.MaxString, 1 << 32, 1<<32 + 1, api.MaxInt} {
		expectString(t, groupsOf(size)+long, 0, "", 0, api.ErrWire)
		expectString(t, "a"+groupsOf(size)+"b", 1, "", 0, api.ErrWire)
	}
	for _, s := range []string{
		"\x80\x00abc", // superfluous zero groups
		"\x84\x00abc",
		"\x84\x80\x00abc",
		"\x84",
		"\xff\xff\xff\xff\xff\xff\xff\xff\x7fabc", // not from -MaxInt to MaxInt
		"\x84\x80\x80\x80\x80\x80\x80\x80\x80\x02abc",
	} {
		expectString(t, s, 0, "", 0, api.ErrWire)
	}
}

// TestStringAcceptsOnlyWhatPutStringReturns goes through all strings of two bytes before others.
func TestStringAcceptsOnlyWhatPutStringReturns(t *testing.T) {
	rest := strings.Repeat("z", 100)
	for a := range 256 {
		for b := range 256 {
			s := string([]byte{byte(a), byte(b)}) + rest
			text, next, e := wire.String(s, 0)
			if e != api.OK {
				continue
			}
			if u, f := wire.PutString(text); u != s[:next] || f != api.OK {
				t.Errorf("String(%.10q) = %.10q, whose encoding is %.10q", s, text, u)
			}
		}
	}
}

func TestStringEncodingsArePrefixFree(t *testing.T) {
	encoded := map[string]string{}
	for _, text := range texts() {
		encoded[text], _ = wire.PutString(text)
	}
	for text, s := range encoded {
		for other, u := range encoded {
			if text != other && strings.HasPrefix(u, s) {
				t.Errorf("the encoding of %.10q begins with that of %.10q", other, text)
			}
		}
	}
}

// TestConcatenation decodes one string of all encodings, integers and strings by turns.
func TestConcatenation(t *testing.T) {
	all := ""
	for _, text := range texts() {
		for _, n := range numbers()[:20] {
			s, _ := wire.PutInt(n)
			all += s
		}
		s, _ := wire.PutString(text)
		all += s
	}
	at := 0
	for _, text := range texts() {
		for _, want := range numbers()[:20] {
			n, next, e := wire.Int(all, at)
			if n != want || e != api.OK {
				t.Fatalf("Int at %d = %d, %d; want %d", at, n, e, want)
			}
			at = next
		}
		s, next, e := wire.String(all, at)
		if s != text || e != api.OK {
			t.Fatalf("String at %d = %.30q, %d; want %.30q", at, s, e, text)
		}
		at = next
	}
	if at != len(all) {
		t.Errorf("decoded %d bytes of %d", at, len(all))
	}
}
