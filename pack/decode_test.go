package pack_test

import (
	"runtime"
	"strings"
	"testing"
)

func TestDecodeRefusesWhatIsNotWhole(t *testing.T) {
	for _, s := range samples() {
		if len(s) > 1000 {
			continue
		}
		code := encoded(t, s)
		parts, _ := split(code)
		for i, p := range parts { // a piece from which the last byte is missing, or of which there is only the first
			before := spelt(parts[:i]...)
			piece := spelt(p)
			expectRefused(t, before+piece[:len(piece)-1])
			expectRefused(t, before+piece[:1])
		}
		expectRefused(t, code+"\x00")
		expectRefused(t, code+"\x7f")
		expectRefused(t, code+"\x80")
		expectRefused(t, code+"\xff")
	}
}

func TestDecodeRefusesEachBeginningOfAPiece(t *testing.T) {
	run := "\x7f" + different(128)
	for n := 1; n < len(run); n++ {
		expectRefused(t, run[:n])
		expectRefused(t, run+"\x7f"+run[:n])
	}
	expectPair(t, different(128), run)
}

func TestDecodeRefusesDistances(t *testing.T) {
	for size := 4; size <= 131; size++ {
		expectRefused(t, spelt(part{"", size, 1}))
		expectRefused(t, spelt(part{"a", 0, 0})+string([]byte{byte(124 + size), 0}))
		for n := 1; n <= 255; n++ {
			expectRefused(t, spelt(runs(different(n), part{"", size, n + 1})...))
		}
	}
	for _, n := range []int{4, 5, 50, 127, 128, 129, 200, 254, 255} {
		for distance := 0; distance <= 255; distance++ {
			code := spelt(runs(different(n))...) + string([]byte{124 + 4, byte(distance)})
			if s := different(n); distance >= 4 && distance <= n {
				expectPair(t, s+s[n-distance:n-distance+4], code)
			} else if distance == 0 || distance > n {
				expectRefused(t, code)
			} else {
				expectJudged(t, code)
			}
		}
	}
}

// TestDecodeRefusesOtherPieces: they stand for a string, but its encoding is another one.
func TestDecodeRefusesOtherPieces(t *testing.T) {
	for _, parts := range [][]part{
		{{"a", 0, 0}, {"b", 0, 0}}, // one run
		{{different(127), 0, 0}, {"\xf0", 0, 0}},
		{{different(128), 0, 0}, {"\xf0", 0, 0}, {"\xf1", 0, 0}},
		{{"aaaaa", 0, 0}}, // a copy
		{{"aaaa", 0, 0}, {"", 4, 1}},
		{{"abcdabcd", 0, 0}},
		{{"a", 0, 0}, {"", 4, 1}, {"", 4, 1}}, // a greater copy
		{{"a", 0, 0}, {"", 4, 1}, {"a", 0, 0}},
		{{"a", 0, 0}, {"", 130, 1}, {"", 4, 1}},
		{{"a", 0, 0}, {"", 4, 1}, {"", 131, 1}},
		{{"ab", 0, 0}, {"", 4, 2}, {"ab", 0, 0}},
		{{"abcdx", 0, 0}, {"", 4, 5}, {"y", 0, 0}, {"", 4, 10}}, // a nearer copy
		{{"ab", 0, 0}, {"", 8, 2}, {"x", 0, 0}, {"", 4, 5}, {"", 4, 4}},
		{{"abc", 0, 0}, {"", 8, 3}, {"", 4, 6}},
		{{"abcdex", 0, 0}, {"", 4, 6}, {"y", 0, 0}, {"", 4, 5}, {"e", 0, 0}}, // a greater one farther away
		{{"abcdxbcdefgya", 0, 0}, {"", 6, 8}},                                // an earlier one
	} {
		if _, ok := joined(parts); !ok {
			t.Fatalf("%v stand for nothing", parts)
		}
		expectRefused(t, spelt(parts...))
	}
}

func TestDecodeRefusesWhatIsTooLong(t *testing.T) {
	whole := "\x00a" + strings.Repeat("\xff\x01", 31) // 4062 bytes
	for size := 4; size <= 131; size++ {
		code := whole + spelt(part{"", size, 1})
		if n := 4062 + size; n <= 4096 {
			expectPair(t, strings.Repeat("a", n), code)
		} else {
			expectRefused(t, code)
		}
	}
	for n := 1; n <= 128; n++ {
		code := whole + "\x9d\x01" + spelt(part{different(n), 0, 0}) // 4095 bytes and a run
		if n == 1 {
			expectPair(t, strings.Repeat("a", 4095)+"\x00", code)
		} else {
			expectRefused(t, code)
		}
	}
	for _, n := range []int{4097, 4129, 5000, 70000} {
		expectRefused(t, spelt(runs(different(n))...))
	}
	expectRefused(t, whole+strings.Repeat("\xff\x01", 2000))
	expectRefused(t, encoded(t, different(4096))+"\x00a")
	expectRefused(t, encoded(t, different(4096))+"\x80\x04")
}

// TestHostileStringsCostLittle: no more is put together than a string can have.
func TestHostileStringsCostLittle(t *testing.T) {
	hostile := []string{
		"\x00a" + strings.Repeat("\xff\x01", 1<<22),
		strings.Repeat("\x7f"+different(128), 1<<16),
		strings.Repeat("\x00", 1<<23),
		strings.Repeat("\xff", 1<<23),
		"\x00a" + strings.Repeat("\xff\x01", 2063),
	}
	var before, after runtime.MemStats
	runtime.ReadMemStats(&before)
	for _, code := range hostile {
		expectRefused(t, code)
	}
	runtime.ReadMemStats(&after)
	if used := after.TotalAlloc - before.TotalAlloc; used > 1<<18 {
		t.Errorf("%d bytes are used for strings that are too long", used)
	}
}

// TestDecodeAcceptsOnlyEncodings tries all short strings, and all of a few bytes that are first bytes of pieces, distances and letters alike.
func TestDecodeAcceptsOnlyEncodings(t *testing.T) {
	all := []byte{}
	for i := range 256 {
		all = append(all, byte(i))
	}
	accepted := map[int]int{}
	for code := range short(string(all), 2) {
		if expectJudged(t, code) {
			accepted[len(code)]++
		}
	}
	if accepted[0] != 1 || accepted[1] != 0 || accepted[2] != 256 {
		t.Errorf("%v encodings of at most 2 bytes", accepted)
	}
	for code := range short("\x00\x01\x02\x03\x80\x81", 7) {
		if expectJudged(t, code) {
			accepted[len(code)]++
		}
	}
	if accepted[4] < 50 || accepted[7] < 100 {
		t.Errorf("only %v encodings were found", accepted)
	}
}

// TestDecodeOfChangedEncodings replaces, removes, inserts and doubles bytes.
func TestDecodeOfChangedEncodings(t *testing.T) {
	r := dice()
	for _, s := range []string{"aaaaaaaa", "abcabcabcx", "abcdxabcdeyabcde", patched(r, 60), noise(r, 40, 2), "wxyz" + noise(r, 20, 256) + "wxyz"} {
		code := encoded(t, s)
		for i := range len(code) {
			for v := range 256 {
				b := string([]byte{byte(v)})
				expectJudged(t, code[:i]+b+code[i+1:])
				if v%16 == i%16 {
					expectJudged(t, code[:i]+b+code[i:])
				}
			}
			expectJudged(t, code[:i]+code[i+1:])
			expectJudged(t, code[:i]+code[i:i+1]+code[i:])
			expectJudged(t, code[i:]+code[:i])
		}
	}
}

// TestDecodeOfAnyPieces tries pieces that follow no rule.
func TestDecodeOfAnyPieces(t *testing.T) {
	r := dice()
	accepted := 0
	for range 20000 {
		parts := []part{}
		for range 1 + r.IntN(4) {
			if r.IntN(2) == 0 {
				parts = append(parts, part{noise(r, 1+r.IntN(6), 5), 0, 0})
			} else {
				parts = append(parts, part{"", 4 + r.IntN(6), 1 + r.IntN(8)})
			}
		}
		if expectJudged(t, spelt(parts...)) {
			accepted++
		}
	}
	if accepted < 500 || accepted > 15000 {
		t.Errorf("%d are accepted", accepted)
	}
}
