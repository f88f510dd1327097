package seal_test

import (
	"iter"
	"math"
	"runtime"
	"slices"
	"strconv"
	"strings"
	"testing"

	"longliner/api"
	"longliner/seal"
)

// changedTexts yields l with one text changed, moved, left out, added or put elsewhere.
func changedTexts(l []string) iter.Seq[[]string] {
	return func(yield func([]string) bool) {
		give := func(i int, part ...string) bool { return yield(slices.Concat(l[:i], part, l[i+1:])) }
		for i, s := range l {
			for at := range len(s) {
				if !give(i, flipped(s, at, at%8)) {
					return
				}
			}
			next := l[(i+1)%len(l)]
			for _, part := range [][]string{
				{}, {""}, {"x"}, {s, s}, {s, ""}, {"", s}, {next}, {steps(s, 1)}, {steps(s, 15)}, {strings.Repeat("\x00", 32)},
				{s[:31]}, {s[1:]}, {s + "\x00"}, {"\x00" + s}, {s + s}, {s[:16], s[16:]}, {s[:31], s[31:]},
			} {
				if !give(i, part...) {
					return
				}
			}
		}
		for i := 1; i < len(l); i++ {
			a, b := l[i-1], l[i]
			for _, two := range [][]string{{b, a}, {a + b[:1], b[1:]}, {a[:31], a[31:] + b}, {a + b, ""}, {"", a + b}, {a + b}} {
				if !yield(slices.Concat(l[:i-1], two, l[i+1:])) {
					return
				}
			}
		}
		x := hash("x")
		for _, other := range [][]string{nil, {x}, slices.Concat(l, l), append([]string{x}, l...), append(slices.Clone(l), x), slices.Repeat([]string{x}, len(l))} {
			if !yield(other) {
				return
			}
		}
	}
}

// changes yields seals that differ from s in one respect.
func changes(s api.Seal) iter.Seq[api.Seal] {
	return func(yield func(api.Seal) bool) {
		for l := range changedTexts(s.Chains) {
			if !slices.Equal(l, s.Chains) && !yield(api.Seal{Index: s.Index, Chains: l, Path: s.Path}) {
				return
			}
		}
		for l := range changedTexts(s.Path) {
			if !slices.Equal(l, s.Path) && !yield(api.Seal{Index: s.Index, Chains: s.Chains, Path: l}) {
				return
			}
		}
		for _, i := range []int{0, 1, 2, 3, 4, 7, 8, 15, 16, 17, 32, 64, -1, -2, -16, math.MaxInt, math.MinInt} {
			if i != s.Index && !yield(api.Seal{Index: i, Chains: s.Chains, Path: s.Path}) {
				return
			}
		}
		for i := range len(s.Path) + 1 { // the border between chains and path
			all := slices.Concat(s.Chains, s.Path)
			if at := 18 - i; i > 0 && !yield(api.Seal{Index: s.Index, Chains: all[:at], Path: all[at:]}) {
				return
			}
			if at := 18 + i; i > 0 && !yield(api.Seal{Index: s.Index, Chains: all[:at], Path: all[at:]}) {
				return
			}
		}
	}
}

// TestVerifyRefusesChanges is P8.6, too: of the seals with one Index, no other one is accepted.
func TestVerifyRefusesChanges(t *testing.T) {
	for height := range 5 {
		index := 5 % (1 << height)
		root := rooted(t, "a", height)
		message := messages()[height]
		s := signed(t, "a", height, index, message)
		count := 0
		for c := range changes(s) {
			if expectJudged(t, root, height, message, c) {
				t.Errorf("%x is accepted beside %x", c, s)
			}
			count++
		}
		if count < 900 {
			t.Errorf("only %d changes were tried", count)
		}
	}
}

// TestVerifyRefusesEachOtherByte: digits of 0 and of 15 are among those of the message.
func TestVerifyRefusesEachOtherByte(t *testing.T) {
	message := with(t, func(d []int) bool { return slices.Contains(d, 0) && slices.Contains(d, 15) })
	root := rooted(t, "a", 1)
	s := signed(t, "a", 1, 1, message)
	for i := range s.Chains {
		for v := range 256 {
			c := cloned(s)
			c.Chains[i] = string([]byte{byte(v)}) + c.Chains[i][1:]
			expectJudged(t, root, 1, message, c)
			c.Chains[i] = s.Chains[i][:31] + string([]byte{byte(v)})
			expectJudged(t, root, 1, message, c)
		}
	}
	if !seal.Verify(root, 1, message, s) {
		t.Error("the seal itself is refused")
	}
}

// with returns a message whose digits are as wanted.
func with(t *testing.T, wanted func(d []int) bool) string {
	t.Helper()
	for i := range 1000000 {
		if m := "message " + strconv.Itoa(i); wanted(digitsOf(m)) {
			return m
		}
	}
	t.Fatal("there is no such message")
	return ""
}

// TestVerifyRefusesOtherBorders: where no steps are left in two chains that follow one another, the key string does not tell where one ends.
func TestVerifyRefusesOtherBorders(t *testing.T) {
	message := with(t, func(d []int) bool { return d[4] == 15 && d[5] == 15 })
	root := rooted(t, "a", 0)
	s := signed(t, "a", 0, 0, message)
	if !seal.Verify(root, 0, message, s) {
		t.Error("the seal itself is refused")
	}
	both := s.Chains[4] + s.Chains[5]
	for at := range len(both) + 1 {
		c := cloned(s)
		c.Chains[4], c.Chains[5] = both[:at], both[at:]
		if expectJudged(t, root, 0, message, c) != (at == 32) {
			t.Errorf("the border at %d is wrongly judged", at)
		}
	}
}

func TestVerifyRefusesOtherRoots(t *testing.T) {
	for height := range 5 {
		root := rooted(t, "a", height)
		s := signed(t, "a", height, 0, "m")
		for at := range len(root) {
			for bit := range 8 {
				if seal.Verify(flipped(root, at, bit), height, "m", s) {
					t.Errorf("a changed root at the height %d is accepted", height)
				}
			}
		}
		for _, r := range []string{"", root[:31], root[1:], root + "\x00", "\x00" + root, root + root, keyOf("a", 0), strings.Repeat("\x00", 32), hash(""), rootOf("b", height), rootOf("a", (height+1)%5)} {
			if expectJudged(t, r, height, "m", s) {
				t.Errorf("the root %x is accepted at the height %d", r, height)
			}
		}
	}
}

func TestVerifyRefusesOtherHeights(t *testing.T) {
	for height := range 5 {
		root := rooted(t, "a", height)
		for index := range 1 << height {
			s := signed(t, "a", height, index, "m")
			for _, h := range []int{-1, 0, 1, 2, 3, 4, 5, 6, 8, 31, 62, 63, 64, 65, math.MaxInt, math.MinInt} {
				if expectJudged(t, root, h, "m", s) != (h == height) {
					t.Errorf("the seal by the key %d of the height %d is wrongly judged at the height %d", index, height, h)
				}
			}
		}
	}
}

// TestVerifyRefusesInnerNodes: a node of the tree is no key, and a part of a tree no tree.
func TestVerifyRefusesInnerNodes(t *testing.T) {
	levels := levelsOf("a", 2)
	s := signed(t, "a", 2, 0, "m")
	short := api.Seal{Chains: s.Chains, Path: s.Path[:1]}
	if !seal.Verify(levels[1][0], 1, "m", short) { // it is the root of the first two keys
		t.Error("the seal is refused for the first two keys")
	}
	if expectJudged(t, levels[2][0], 1, "m", short) || expectJudged(t, levels[2][0], 2, "m", short) || expectJudged(t, levels[1][0], 1, "m", s) {
		t.Error("a path of another length is accepted")
	}
	if expectJudged(t, levels[0][1], 0, "m", api.Seal{Chains: s.Chains}) {
		t.Error("a seal by another key is accepted")
	}
}

func TestVerifyOfNoSeals(t *testing.T) {
	root := rooted(t, "a", 0)
	x := hash("x")
	for _, s := range []api.Seal{
		{}, {Index: -1}, {Chains: make([]string, 18)}, {Chains: slices.Repeat([]string{x}, 18)}, {Chains: slices.Repeat([]string{x}, 1000)},
		{Path: slices.Repeat([]string{x}, 1000)}, {Chains: slices.Repeat([]string{strings.Repeat("x", 70000)}, 18)}, {Index: 15, Chains: slices.Repeat([]string{x}, 18), Path: make([]string, 4)},
	} {
		for _, r := range []string{"", root, x} {
			for height := -1; height <= 5; height++ {
				if expectJudged(t, r, height, "m", s) {
					t.Errorf("the seal %.200x is accepted", s)
				}
			}
		}
	}
}

// TestVerifyOfSealsByNobody: a root may be made for a seal, without a seed.
func TestVerifyOfSealsByNobody(t *testing.T) {
	r := dice()
	for range 200 {
		s := api.Seal{Index: r.IntN(16)}
		message := number(r.Int())
		text := "\x05"
		for _, d := range digitsOf(message) {
			x := hash(number(r.Int()))
			s.Chains = append(s.Chains, x)
			text += steps(x, 15-d)
		}
		node := hash("\x00", hash(text))
		for i := range r.IntN(5) {
			x := hash(number(r.Int()))
			s.Path = append(s.Path, x)
			if s.Index>>i&1 == 1 {
				node = hash("\x01", x, node)
			} else {
				node = hash("\x01", node, x)
			}
		}
		for height := range 5 {
			expectJudged(t, node, height, message, s)
		}
	}
}

func TestHostileSealsCostLittle(t *testing.T) {
	x := hash("x")
	long := strings.Repeat("x", 1<<22)
	hostile := []api.Seal{
		{Chains: slices.Repeat([]string{x}, 1<<16)},
		{Chains: slices.Repeat([]string{x}, 18), Path: slices.Repeat([]string{x}, 1<<16)},
		{Chains: slices.Repeat([]string{long}, 18), Path: slices.Repeat([]string{long}, 4)},
		{Index: math.MaxInt, Chains: slices.Repeat([]string{long}, 18)},
	}
	codes := []string{"\x00\x00" + strings.Repeat(number(65536)+strings.Repeat("x", 65536), 18), "\x00\x08" + strings.Repeat("\x00", 1<<22), strings.Repeat("\x80", 1<<22), codeOf(sealOf("a", 0, 0, "m")) + long}
	var before, after runtime.MemStats
	runtime.ReadMemStats(&before)
	for _, s := range hostile {
		if _, e := seal.Encode(s); e != api.ErrSeal || seal.Verify(x, 1, "m", s) {
			t.Error("a hostile seal is accepted")
		}
	}
	for _, code := range codes {
		if _, e := seal.Decode(code); e == api.OK {
			t.Error("a hostile encoding is accepted")
		}
	}
	if seal.Verify(x, 64, long, sealOf("a", 0, 0, "m")) {
		t.Error("a hostile height is accepted")
	}
	runtime.ReadMemStats(&after)
	if used := after.TotalAlloc - before.TotalAlloc; used > 1<<21 {
		t.Errorf("%d bytes are used for hostile arguments", used)
	}
}
