package wire_test

import (
	"math"
	"strings"
	"testing"

	"longliner/api"
	"longliner/wire"
)

// numbers returns the integers beside which the size of an encoding changes, and both ends of the range.
func numbers() []int {
	l := []int{0, 1, -1, 150, -150, 1000000, -1000000}
	for power := 1; power <= 1<<61; power *= 2 {
		for _, n := range []int{power - 1, power, power + 1} {
			l = append(l, n, -n)
		}
	}
	return append(l, api.MaxInt-1, api.MaxInt, 1-api.MaxInt, -api.MaxInt)
}

// groupsOf returns the encoding of n as the chapter defines it, bit by bit.
func groupsOf(n int) string {
	z := 2 * n
	if n < 0 {
		z = -2*n - 1
	}
	s := ""
	for z >= 128 {
		s += string([]byte{byte(z%128) + 128})
		z /= 128
	}
	return s + string([]byte{byte(z)})
}

func expectInt(t *testing.T, s string, at int, n int, next int, e api.Errno) {
	t.Helper()
	if m, after, f := wire.Int(s, at); m != n || after != next || f != e {
		t.Errorf("Int(%.30q, %d) = %d, %d, %d; want %d, %d, %d", s, at, m, after, f, n, next, e)
	}
}

func TestIntExamples(t *testing.T) {
	for _, c := range []struct {
		n int
		s string
	}{
		{0, "\x00"}, {1, "\x02"}, {-1, "\x01"}, {63, "\x7e"}, {-64, "\x7f"},
		{64, "\x80\x01"}, {-65, "\x81\x01"}, {150, "\xac\x02"},
		{8191, "\xfe\x7f"}, {-8192, "\xff\x7f"}, {8192, "\x80\x80\x01"},
		{api.MaxInt, "\xfe\xff\xff\xff\xff\xff\xff\xff\x7f"},
		{-api.MaxInt, "\xfd\xff\xff\xff\xff\xff\xff\xff\x7f"},
	} {
		if s, e := wire.PutInt(c.n); s != c.s || e != api.OK {
			t.Errorf("PutInt(%d) = %q, %d; want %q", c.n, s, e, c.s)
		}
		expectInt(t, c.s, 0, c.n, len(c.s), api.OK)
	}
}

func TestIntRoundTrip(t *testing.T) {
	for _, n := range numbers() {
		s, e := wire.PutInt(n)
		if s != groupsOf(n) || e != api.OK {
			t.Errorf("PutInt(%d) = %q, %d; want %q", n, s, e, groupsOf(n))
		}
		for _, before := range []string{"", "\x00", "\x80", "\xff\xff\xff"} {
			for _, after := range []string{"", "\x00", "\x80", "\xff\xff\xff"} {
				expectInt(t, before+s+after, len(before), n, len(before)+len(s), api.OK)
			}
		}
	}
}

func TestPutIntRefuses(t *testing.T) {
	for _, n := range []int{api.MaxInt + 1, -api.MaxInt - 1, api.MaxInt + 2, -api.MaxInt - 2, math.MaxInt, math.MinInt, math.MinInt + 1} {
		if s, e := wire.PutInt(n); s != "" || e != api.ErrWire {
			t.Errorf("PutInt(%d) = %q, %d; want ErrWire", n, s, e)
		}
	}
}

func TestIntRefusesOffsets(t *testing.T) {
	for _, s := range []string{"", "\x00", "\xac\x02", "\x80", "\x80\x00"} {
		for _, at := range []int{-1, -2, math.MinInt, len(s) + 1, len(s) + 2, math.MaxInt} {
			expectInt(t, s, at, 0, 0, api.ErrArg)
		}
		expectInt(t, s, len(s), 0, 0, api.ErrWire)
	}
}

func TestIntRefusesStringsThatEndTooSoon(t *testing.T) {
	for _, n := range numbers() {
		s := groupsOf(n)
		for size := range len(s) {
			expectInt(t, s[:size], 0, 0, 0, api.ErrWire)
			expectInt(t, "\x00\x00"+s[:size], 2, 0, 0, api.ErrWire)
		}
	}
}

func TestIntRefusesSuperfluousZeroGroups(t *testing.T) {
	for _, n := range numbers() {
		s := groupsOf(n)
		last := len(s) - 1
		longer := s[:last] + string([]byte{s[last] + 128})
		for _, zeros := range []string{"\x00", "\x80\x00", "\x80\x80\x00", strings.Repeat("\x80", 20) + "\x00"} {
			expectInt(t, longer+zeros, 0, 0, 0, api.ErrWire)
			expectInt(t, "\x02"+longer+zeros+"\x02", 1, 0, 0, api.ErrWire)
		}
	}
}

func TestIntRefusesLargeNumbers(t *testing.T) {
	for _, s := range []string{
		"\xff\xff\xff\xff\xff\xff\xff\xff\x7f",         // -MaxInt - 1
		"\x80\x80\x80\x80\x80\x80\x80\x80\x80\x01",     // MaxInt + 1
		"\x81\x80\x80\x80\x80\x80\x80\x80\x80\x01",     // -MaxInt - 2
		"\xff\xff\xff\xff\xff\xff\xff\xff\xff\x01",     // 64 bits
		"\x80\x80\x80\x80\x80\x80\x80\x80\x80\x02",     // more bits, of which the lowest 64 are 0
		"\x82\x80\x80\x80\x80\x80\x80\x80\x80\x02",     // more bits, of which the lowest 64 are those of 1
		"\x82\x80\x80\x80\x80\x80\x80\x80\x80\x80\x01", // 11 groups
		strings.Repeat("\x80", 1000) + "\x01",
		strings.Repeat("\xff", api.MaxString),
	} {
		expectInt(t, s, 0, 0, 0, api.ErrWire)
		expectInt(t, "\x04"+s+"\x04", 1, 0, 0, api.ErrWire)
	}
}

// TestIntAcceptsOnlyWhatPutIntReturns goes through all strings of one and two bytes: an integer is accepted exactly if its encoding begins the string.
func TestIntAcceptsOnlyWhatPutIntReturns(t *testing.T) {
	short := map[string]int{}
	for n := -8192; n < 8192; n++ {
		s, _ := wire.PutInt(n)
		if m, twice := short[s]; twice {
			t.Fatalf("PutInt(%d) and PutInt(%d) are both %q", n, m, s)
		}
		short[s] = n
	}
	check := func(s string) {
		for size := 1; size <= len(s); size++ {
			if n, ok := short[s[:size]]; ok {
				expectInt(t, s, 0, n, size, api.OK)
				return
			}
		}
		expectInt(t, s, 0, 0, 0, api.ErrWire)
	}
	for a := range 256 {
		check(string([]byte{byte(a)}))
		for b := range 256 {
			check(string([]byte{byte(a), byte(b)}))
		}
	}
}

func TestIntEncodingsArePrefixFree(t *testing.T) {
	encoded := map[int]string{}
	for _, n := range numbers() {
		encoded[n], _ = wire.PutInt(n)
	}
	for n, s := range encoded {
		for m, u := range encoded {
			if n != m && strings.HasPrefix(u, s) {
				t.Errorf("the encoding %q of %d begins with the encoding %q of %d", u, m, s, n)
			}
		}
	}
}
