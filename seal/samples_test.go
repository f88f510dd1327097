package seal_test

import (
	"crypto/sha256"
	"encoding/binary"
	"math/rand/v2"
	"slices"
	"strconv"
	"strings"
	"testing"

	"longliner/api"
	"longliner/seal"
)

// Two messages whose digests begin with the same 8 bytes.
const (
	twin  = "99923dd3fee04a78"
	other = "5b6ed4988fc3ebfc"
)

// hash returns Go's own SHA-256 of the parts, one after the other.
func hash(parts ...string) string {
	sum := sha256.Sum256([]byte(strings.Join(parts, "")))
	return string(sum[:])
}

// number returns the encoding of an integer: Go's own signed numbers of variable size are the same.
func number(n int) string {
	return string(binary.AppendVarint(nil, int64(n)))
}

// steps returns what n steps make of s.
func steps(s string, n int) string {
	for range n {
		s = hash("\x04", s)
	}
	return s
}

func secretOf(seed string, index int, chain int) string {
	return hash(number(index), number(chain), seed)
}

func keyOf(seed string, index int) string {
	text := "\x05"
	for chain := range 18 {
		text += steps(secretOf(seed, index, chain), 15)
	}
	return hash(text)
}

// levelsOf returns the levels of the tree of keys, the leaves first and the root last.
func levelsOf(seed string, height int) [][]string {
	leaves := []string{}
	for i := range 1 << height {
		leaves = append(leaves, hash("\x00", keyOf(seed, i)))
	}
	levels := [][]string{leaves}
	for range height {
		next := []string{}
		for two := range slices.Chunk(levels[len(levels)-1], 2) {
			next = append(next, hash("\x01", two[0], two[1]))
		}
		levels = append(levels, next)
	}
	return levels
}

func rootOf(seed string, height int) string {
	return levelsOf(seed, height)[height][0]
}

// digitsOf spells the digits of a message in base 16.
func digitsOf(message string) []int {
	digits, sum := []int{}, 0
	for _, b := range []byte(hash(message)[:8]) {
		spelt := strconv.FormatInt(256+int64(b), 16) // 1 and two digits
		for _, c := range spelt[1:] {
			d, _ := strconv.ParseInt(string(c), 16, 0)
			digits, sum = append(digits, int(d)), sum+15-int(d)
		}
	}
	return append(digits, sum>>4, sum&15)
}

func sealOf(seed string, height int, index int, message string) api.Seal {
	s := api.Seal{Index: index}
	for chain, d := range digitsOf(message) {
		s.Chains = append(s.Chains, steps(secretOf(seed, index, chain), d))
	}
	for i, level := range levelsOf(seed, height)[:height] {
		s.Path = append(s.Path, level[index>>i^1])
	}
	return s
}

func validSeal(s api.Seal) bool {
	for _, x := range slices.Concat(s.Chains, s.Path) {
		if len(x) != 32 {
			return false
		}
	}
	return s.Index >= 0 && s.Index <= 15 && len(s.Chains) == 18 && len(s.Path) <= 4
}

// accepted says what Verify must say: it climbs from the leaf to the root.
func accepted(root string, height int, message string, s api.Seal) bool {
	if height < 0 || height > 4 || !validSeal(s) || s.Index >= 1<<height || len(s.Path) != height {
		return false
	}
	text := "\x05"
	for chain, d := range digitsOf(message) {
		text += steps(s.Chains[chain], 15-d)
	}
	node := hash("\x00", hash(text))
	for i, beside := range s.Path {
		if s.Index>>i&1 == 0 {
			node = hash("\x01", node, beside)
		} else {
			node = hash("\x01", beside, node)
		}
	}
	return node == root
}

// codeOf returns the bytes of a seal, whether it is valid or not.
func codeOf(s api.Seal) string {
	code := number(s.Index) + number(len(s.Path))
	for _, x := range slices.Concat(s.Chains, s.Path) {
		code += number(len(x)) + x
	}
	return code
}

// whole returns the integer with which s begins, what follows it, and whether there is one.
func whole(s string) (int, string, bool) {
	n, size := binary.Varint([]byte(s[:min(len(s), 9)]))
	if size <= 0 || n < -api.MaxInt || n > api.MaxInt || number(int(n)) != s[:size] {
		return 0, "", false
	}
	return int(n), s[size:], true
}

// decodedOf says what Decode must return.
func decodedOf(s string) (api.Seal, api.Errno) {
	index, rest, ok := whole(s)
	if !ok {
		return api.Seal{}, api.ErrWire
	}
	size, rest, ok := whole(rest)
	if !ok {
		return api.Seal{}, api.ErrWire
	}
	if size < 0 || size > 4 {
		return api.Seal{}, api.ErrSeal
	}
	texts := []string{}
	for range 18 + size {
		n, after, ok := whole(rest)
		if !ok || n < 0 || n > 65536 || n > len(after) {
			return api.Seal{}, api.ErrWire
		}
		texts, rest = append(texts, after[:n]), after[n:]
	}
	if rest != "" {
		return api.Seal{}, api.ErrWire
	}
	found := api.Seal{Index: index, Chains: texts[:18], Path: texts[18:]}
	if !validSeal(found) {
		return api.Seal{}, api.ErrSeal
	}
	return found, api.OK
}

// seeds returns all kinds of seeds.
func seeds() []string {
	return []string{"", "a", "\x00", "\x00\x00", "\x02", "the scales of port 3", "\xff\xfe", strings.Repeat("s", 1000)}
}

// messages returns all kinds of messages, among them two with the same digits.
func messages() []string {
	l := []string{"", "m", "mm", "\x00", "\x04m", "cod 40; hake 7", strings.Repeat("m", 70000), twin, other}
	for i := range 12 {
		l = append(l, "landing "+strconv.Itoa(i))
	}
	return l
}

// dice returns a source of numbers that are the same in each run.
func dice() *rand.Rand {
	return rand.New(rand.NewPCG(8, 8))
}

func same(a api.Seal, b api.Seal) bool {
	return a.Index == b.Index && slices.Equal(a.Chains, b.Chains) && slices.Equal(a.Path, b.Path)
}

func cloned(s api.Seal) api.Seal {
	return api.Seal{Index: s.Index, Chains: slices.Clone(s.Chains), Path: slices.Clone(s.Path)}
}

// flipped returns s with one bit changed.
func flipped(s string, at int, bit int) string {
	return s[:at] + string([]byte{s[at] ^ 1<<bit}) + s[at+1:]
}

// rooted returns the root of the keys of a seed.
func rooted(t *testing.T, seed string, height int) string {
	t.Helper()
	root, e := seal.Root(seed, height)
	if e != api.OK {
		t.Fatalf("Root(%.20q, %d): %d", seed, height, e)
	}
	return root
}

// signed returns the seal of a message.
func signed(t *testing.T, seed string, height int, index int, message string) api.Seal {
	t.Helper()
	s, e := seal.Sign(seed, height, index, message)
	if e != api.OK {
		t.Fatalf("Sign(%.20q, %d, %d, %.20q): %d", seed, height, index, message, e)
	}
	return s
}

// encoded returns the encoding of a seal.
func encoded(t *testing.T, s api.Seal) string {
	t.Helper()
	code, e := seal.Encode(s)
	if e != api.OK {
		t.Fatalf("Encode(%.300x): %d", s, e)
	}
	return code
}

// expectJudged compares Verify with what the chapter says, and returns it.
func expectJudged(t *testing.T, root string, height int, message string, s api.Seal) bool {
	t.Helper()
	ok := accepted(root, height, message, s)
	if seal.Verify(root, height, message, s) != ok {
		t.Errorf("Verify(%x, %d, %.20q, %.300x) = %v", root, height, message, s, !ok)
	}
	return ok
}

// expectDecoded compares Decode with what the chapter says, and returns the error.
func expectDecoded(t *testing.T, code string) api.Errno {
	t.Helper()
	want, wantE := decodedOf(code)
	if got, e := seal.Decode(code); !same(got, want) || e != wantE {
		t.Errorf("Decode(%.100x) = %.300x, %d; want %d", code, got, e, wantE)
	}
	return wantE
}
