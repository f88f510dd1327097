package seal_test

import (
	"math"
	"slices"
	"strings"
	"testing"
	"unsafe"

	"longliner/api"
	"longliner/seal"
)

// valid returns valid seals of all indices and all sizes of a path; Sign makes only some of them.
func valid() []api.Seal {
	l := []api.Seal{sealOf("a", 0, 0, "m"), sealOf("a", 4, 15, ""), sealOf("", 2, 1, twin)}
	for index := range 16 {
		for size := range 5 {
			s := api.Seal{Index: index}
			for i := range 18 {
				s.Chains = append(s.Chains, hash(number(index), number(i)))
			}
			for i := range size {
				s.Path = append(s.Path, hash(number(i)))
			}
			l = append(l, s)
		}
	}
	zeros, ones := strings.Repeat("\x00", 32), strings.Repeat("\xff", 32)
	return append(l, api.Seal{Chains: slices.Repeat([]string{zeros}, 18)}, api.Seal{Index: 15, Chains: slices.Repeat([]string{ones}, 18), Path: slices.Repeat([]string{zeros}, 4)})
}

func TestEncodeAndDecode(t *testing.T) {
	for _, s := range valid() {
		code := encoded(t, s)
		if code != codeOf(s) {
			t.Errorf("Encode(%x) = %x; want %x", s, code, codeOf(s))
		}
		if got, e := seal.Decode(code); !same(got, s) || e != api.OK {
			t.Errorf("Decode(%x) = %x, %d; want %x", code, got, e, s)
		}
	}
}

func TestEncodeRefusesWhatIsNotValid(t *testing.T) {
	s := sealOf("a", 2, 3, "m")
	refused := 0
	for c := range changes(s) {
		code, e := seal.Encode(c)
		if validSeal(c) {
			if code != codeOf(c) || e != api.OK {
				t.Errorf("Encode(%x) = %x, %d", c, code, e)
			}
			continue
		}
		refused++
		if code != "" || e != api.ErrSeal {
			t.Errorf("Encode(%x) = %x, %d; want ErrSeal", c, code, e)
		}
	}
	if refused < 100 {
		t.Errorf("only %d of the changed seals are not valid", refused)
	}
	for _, c := range []api.Seal{{}, {Chains: make([]string, 18)}, {Index: 16, Chains: s.Chains}, {Index: -1, Chains: s.Chains}, {Chains: s.Chains[:17]}, {Chains: s.Chains, Path: make([]string, 1)}, {Chains: s.Chains, Path: slices.Repeat(s.Path[:1], 5)}, {Chains: s.Chains, Path: slices.Repeat(s.Path, 3)}} {
		if code, e := seal.Encode(c); code != "" || e != api.ErrSeal {
			t.Errorf("Encode(%x) = %x, %d; want ErrSeal", c, code, e)
		}
	}
}

// TestDecodeRefusesPartsAndMore is P8.5.
func TestDecodeRefusesPartsAndMore(t *testing.T) {
	for _, s := range valid()[:20] {
		code := encoded(t, s)
		for n := range len(code) {
			if e := expectDecoded(t, code[:n]); e != api.ErrWire {
				t.Errorf("the first %d bytes of %x: %d", n, code, e)
			}
		}
		for v := range 256 {
			if e := expectDecoded(t, code+string([]byte{byte(v)})); e != api.ErrWire {
				t.Errorf("a byte %d more: %d", v, e)
			}
		}
		for _, more := range []string{code, "\x40" + hash("x"), strings.Repeat("\x00", 100)} {
			if e := expectDecoded(t, code+more); e != api.ErrWire {
				t.Errorf("%x more: %d", more, e)
			}
		}
	}
}

// TestDecodeOfChangedEncodings changes each byte, leaves it out, and doubles it.
func TestDecodeOfChangedEncodings(t *testing.T) {
	for _, s := range []api.Seal{sealOf("a", 0, 0, "m"), sealOf("a", 2, 3, "m"), sealOf("a", 4, 9, "m")} {
		code := encoded(t, s)
		for i := range len(code) {
			for _, v := range []byte{0, 1, 2, 31, 62, 63, 64, 65, 66, 127, 128, 129, 192, 255} {
				b := string([]byte{v})
				expectDecoded(t, code[:i]+b+code[i+1:])
				expectDecoded(t, code[:i]+b+code[i:])
			}
			expectDecoded(t, code[:i]+code[i+1:])
			expectDecoded(t, code[:i]+code[i:i+1]+code[i:])
		}
	}
}

// TestDecodeOfOtherNumbers tries all numbers in the places of the two integers, and other spellings of them.
func TestDecodeOfOtherNumbers(t *testing.T) {
	numbers := []string{"\x80\x00", "\x82\x00", "\x80\x80\x00", "\x80", "", "\x88\x80\x80\x80\x80\x80\x80\x80\x80\x00", strings.Repeat("\xff", 8) + "\x7f", strings.Repeat("\xff", 9) + "\x01"}
	for _, n := range []int{-api.MaxInt, -65536, -5, -4, -3, -2, -1, 0, 1, 2, 3, 4, 5, 6, 14, 15, 16, 17, 18, 64, 255, 65536, api.MaxInt, api.MaxInt - 1, math.MaxInt} {
		numbers = append(numbers, number(n))
	}
	accepted := 0
	for size := range 6 {
		s := sealOf("a", 0, 0, "m")
		s.Path = slices.Repeat([]string{hash("x")}, size)
		rest := codeOf(s)[2:]
		for _, first := range numbers {
			for _, second := range numbers {
				if expectDecoded(t, first+second+rest) == api.OK {
					accepted++
				}
			}
		}
	}
	if accepted != 5*9 { // each size of a path, and the indices of these that are from 0 to 15
		t.Errorf("%d are accepted", accepted)
	}
}

// TestDecodeOfOtherTexts puts texts of other sizes, and other spellings of the size, in the place of each text.
func TestDecodeOfOtherTexts(t *testing.T) {
	s := sealOf("a", 1, 1, "m")
	all := slices.Concat(s.Chains, s.Path)
	for i := range all {
		before, after := number(1)+number(1), ""
		for j, x := range all {
			if j < i {
				before += number(32) + x
			} else if j > i {
				after += number(32) + x
			}
		}
		for _, size := range []int{0, 1, 31, 33, 64, 65535, 65536, 65537, 70000} {
			text := strings.Repeat("x", size)
			want := api.ErrSeal
			if size > 65536 {
				want = api.ErrWire
			}
			if e := expectDecoded(t, before+number(size)+text+after); e != want {
				t.Errorf("a text of %d bytes in the place %d: %d", size, i, e)
			}
		}
		for _, size := range []string{"\xc0\x00", "\x3f", "\x41", "\x01", strings.Repeat("\xff", 8) + "\x7f", strings.Repeat("\xff", 9)} {
			expectDecoded(t, before+size+all[i]+after)
		}
	}
}

// TestDecodeNamesTheFirstError puts several errors into one encoding.
func TestDecodeNamesTheFirstError(t *testing.T) {
	text := number(32) + hash("x")
	texts := strings.Repeat(text, 18)
	for _, x := range []struct {
		code string
		want api.Errno
	}{
		{"", api.ErrWire}, {"\x80\x00", api.ErrWire}, {"\x06\x80\x00", api.ErrWire}, {"\x80\x00\x0a", api.ErrWire},
		{"\x06\x0a", api.ErrSeal}, {"\x06\x01", api.ErrSeal}, {"\x20\x0a", api.ErrSeal}, {"\x06\x0a" + texts + "x", api.ErrSeal}, {"\x06\x0a\x80\x00", api.ErrSeal}, // the number of elements comes before the texts
		{"\x20", api.ErrWire}, {"\x20\x00", api.ErrWire}, {"\x01\x00" + texts[1:], api.ErrWire}, {"\x20\x00" + texts + "x", api.ErrWire}, // the index comes last
		{"\x20\x00" + texts, api.ErrSeal}, {"\x01\x00" + texts, api.ErrSeal}, {"\x00\x00" + texts, api.OK}, {"\x1e\x00" + texts, api.OK},
		{"\x00\x00\x00" + texts[33:], api.ErrSeal}, {"\x00\x00\x00" + texts, api.ErrWire}, {"\x00\x00\x00" + texts[33:] + "x", api.ErrWire},
		{"\x00\x00" + strings.Repeat("\x00", 18), api.ErrSeal}, {"\x00\x00" + strings.Repeat("\x00", 17), api.ErrWire}, {"\x00\x00" + strings.Repeat("\x00", 19), api.ErrWire},
		{"\x00\x02" + texts, api.ErrWire}, {"\x00\x02" + texts + text, api.OK}, {"\x00\x00" + texts + text, api.ErrWire},
	} {
		if e := expectDecoded(t, x.code); e != x.want {
			t.Errorf("%.20x: %d; want %d", x.code, e, x.want)
		}
	}
}

// TestDecodeOfNoise tries encodings that follow no rule.
func TestDecodeOfNoise(t *testing.T) {
	r := dice()
	for range 20000 {
		code := number(r.IntN(20)-2) + number(r.IntN(7)-1)
		for range 18 + r.IntN(5) {
			size := 32
			if r.IntN(40) == 0 {
				size = r.IntN(70)
			}
			code += number(size) + strings.Repeat("x", size)
		}
		if r.IntN(2) == 0 {
			code = code[:len(code)-r.IntN(3)]
		}
		expectDecoded(t, code)
	}
}

// TestArgumentsAreLeftAlone looks at the spare capacity of the slices, too.
func TestArgumentsAreLeftAlone(t *testing.T) {
	s := sealOf("a", 2, 3, "m")
	all := append(slices.Concat(s.Chains, s.Path), "spare", "spare")
	given := api.Seal{Index: 3, Chains: all[:18], Path: all[18:20]}
	before := slices.Clone(all)
	if code := encoded(t, given); code != codeOf(s) || !seal.Verify(rootOf("a", 2), 2, "m", given) {
		t.Error("the seal is not accepted")
	}
	if !slices.Equal(all, before) {
		t.Error("an argument was changed")
	}
}

// TestDecodedIsNew looks for parts of the encoding in the seal.
func TestDecodedIsNew(t *testing.T) {
	code := codeOf(sealOf("a", 3, 5, "m"))
	start := uintptr(unsafe.Pointer(unsafe.StringData(code)))
	s, _ := seal.Decode(code)
	for _, x := range slices.Concat(s.Chains, s.Path) {
		if at := uintptr(unsafe.Pointer(unsafe.StringData(x))); at >= start && at < start+uintptr(len(code)) {
			t.Error("a string lies within the encoding")
		}
	}
	want := cloned(s)
	_ = append(s.Chains, "x", "y", "z", "u", "v")
	_ = append(s.Path, "x", "y", "z", "u", "v")
	if len(s.Chains) != 18 || !same(s, want) {
		t.Error("the chains and the path lie side by side")
	}
	s.Chains[0], s.Path[0] = "", ""
	if again, _ := seal.Decode(code); !same(again, want) {
		t.Error("two results share memory")
	}
}
