package pack_test

import (
	"strings"
	"testing"

	"longliner/api"
	"longliner/pack"
)

// TestDifferentStringsHaveDifferentEncodings, and each of them leads back to its string.
func TestDifferentStringsHaveDifferentEncodings(t *testing.T) {
	stringOf := map[string]string{}
	check := func(s string) {
		code := encoded(t, s)
		if other, known := stringOf[code]; known && other != s {
			t.Errorf("%.60q and %.60q have the same encoding", s, other)
		}
		stringOf[code] = s
		if back, e := pack.Decode(code); back != s || e != api.OK {
			t.Errorf("%.60q becomes %.60q, %d", s, back, e)
		}
	}
	for s := range short("\x00\x01", 14) {
		check(s)
	}
	for s := range short("\x00\x80\x81\x01", 7) {
		check(s)
	}
	for _, s := range samples() {
		check(s)
		check(s[:len(s)*3/4] + "\x00")
	}
}

// TestEncodingsAreShort: of strings that gain as little as possible, too.
func TestEncodingsAreShort(t *testing.T) {
	check := func(s string) {
		t.Helper()
		size, bound := len(encoded(t, s)), len(s)+len(s)/128+1
		if s == "" {
			bound = 0
		}
		if size > bound {
			t.Errorf("%.60q: %d bytes become %d; at most %d", s, len(s), size, bound)
		}
	}
	for _, s := range samples() {
		check(s)
	}
	for s := range short("ab", 12) {
		check(s)
	}
	for n := range 600 {
		check(different(n))
		if n%128 > 0 && len(encoded(t, different(n))) != n+n/128+1 {
			t.Errorf("%d different bytes do not become as long as possible", n)
		}
	}
	for gap := 1; gap < 140; gap++ { // a copy of 4 bytes, then a run
		s := different(8)
		for i := 0; len(s) < 3900; i++ {
			s += s[len(s)-8:len(s)-4] + different(4000)[i+gap:i+2*gap]
		}
		check(s)
	}
	check(different(4096))
}

func TestRepetitionsAreShort(t *testing.T) {
	r := dice()
	units := func(d int) []string {
		return []string{noise(r, d, 256), noise(r, d, 3), different(d), patched(r, d)}
	}
	for d := 1; d <= 255; d++ {
		for _, unit := range units(d) {
			for _, n := range []int{1, d - 1, d, d + 1, d + 3, d + 4, d + 130, d + 131, d + 132, d + 134, d + 135, 2 * d, 3*d + 1, 1000, 4096} {
				s := strings.Repeat(unit, n/d+1)[:n]
				if size, bound := len(encoded(t, s)), d+d/128+2*(n/131)+8; size > bound {
					t.Errorf("%d bytes with a period of %d become %d; at most %d", n, d, size, bound)
				}
			}
		}
	}
}

// repeats reports whether 4 bytes of s occur twice, where the places are at most 255 apart.
func repeats(s string) bool {
	last := map[string]int{}
	for i := 0; i+4 <= len(s); i++ {
		if at, known := last[s[i:i+4]]; known && i-at <= 255 {
			return true
		}
		last[s[i:i+4]] = i
	}
	return false
}

func TestWithoutRepetitionsThereAreRunsAlone(t *testing.T) {
	r := dice()
	threes, far := "", noise(r, 256, 256)
	for i := range 64 { // each 3 bytes occur again, 4 places farther on
		threes += "abc" + string([]byte{byte(i)})
	}
	far = strings.Repeat(far, 16) // each 256 bytes do, one place too far away
	strange := []string{"", "a", "aaaa", "abcabc", "abcdabc", threes, far, far[:257], different(4096)}
	for i := range 200 {
		strange = append(strange, noise(r, 3*i, 1+i), noise(r, 20*i, 256))
	}
	found := 0
	for _, s := range strange {
		if !repeats(s) {
			found++
			if want := len(s) + (len(s)+127)/128; len(encoded(t, s)) != want {
				t.Errorf("%.60q becomes %d bytes; want runs of %d", s, len(encoded(t, s)), want)
			}
			expectPair(t, s, spelt(runs(s)...))
		}
	}
	if found < 200 {
		t.Errorf("only %d of %d have no repetitions", found, len(strange))
	}
}

// TestPiecesStandForTheString looks at each piece, and at each place of a run.
func TestPiecesStandForTheString(t *testing.T) {
	for _, s := range samples() {
		parts, ok := split(encoded(t, s))
		if !ok {
			t.Fatalf("the encoding of %.60q does not consist of pieces", s)
		}
		place := 0
		for i, p := range parts {
			if p.distance > 0 {
				size, distance := longest(s, place)
				if p.size != size || p.distance != distance || size < 4 {
					t.Errorf("%.60q at %d: a copy of %d from %d; the best match is %d from %d", s, place, p.size, p.distance, size, distance)
				}
				place += p.size
				continue
			}
			if !strings.HasPrefix(s[place:], p.run) {
				t.Fatalf("%.60q at %d: the run %q", s, place, p.run)
			}
			if i+1 < len(parts) && parts[i+1].distance == 0 && len(p.run) != 128 {
				t.Errorf("%.60q at %d: a run of %d bytes before a run", s, place, len(p.run))
			}
			for range len(p.run) {
				if size, _ := longest(s, place); size >= 4 {
					t.Errorf("%.60q at %d: a match of %d in a run", s, place, size)
				}
				place++
			}
		}
		if back, _ := joined(parts); back != s {
			t.Errorf("the pieces of %.60q stand for %.60q", s, back)
		}
	}
}
