package digest_test

import (
	"crypto/sha256"
	"encoding/hex"
	"strings"
	"testing"

	"longliner/api"
	"longliner/digest"
)

// hash returns the SHA-256 of the parts, one after the other, as Go's own library computes it.
func hash(parts ...string) string {
	s := sha256.Sum256([]byte(strings.Join(parts, "")))
	return string(s[:])
}

// varied returns a string of n bytes, which has all byte values if it is long enough.
func varied(n int) string {
	b := make([]byte, n)
	for i := range b {
		b[i] = byte(i*7 + i/256)
	}
	return string(b)
}

func TestSumExamples(t *testing.T) {
	for s, want := range map[string]string{
		"":    "e3b0c44298fc1c149afbf4c8996fb92427ae41e4649b934ca495991b7852b855",
		"abc": "ba7816bf8f01cfea414140de5dae2223b00361a396177a9cb410ff61f20015ad",
		"abcdbcdecdefdefgefghfghighijhijkijkljklmklmnlmnomnopnopq": "248d6a61d20638b8e5c026930c3e6039a33ce45964ff2167f6ecedd419db06c1",
		strings.Repeat("a", 1000000):                               "cdc76e5c9914fb9281a1c7e284d73e67f1809a48a497200e046d39ccc7112cd0",
	} {
		if got := hex.EncodeToString([]byte(digest.Sum(s))); got != want {
			t.Errorf("Sum(%.60q) = %s; want %s", s, got, want)
		}
	}
	const leaf = "609f6e36d2405585188d5cfd761f407c7cc46a7d3f314c88270469dde315fcd1"
	if got := hex.EncodeToString([]byte(digest.Leaf("abc"))); got != leaf {
		t.Errorf("Leaf(abc) = %s; want %s", got, leaf)
	}
}

// TestSumOfAllSizes covers every size up to five blocks, so also those beside which the number of blocks changes.
func TestSumOfAllSizes(t *testing.T) {
	for n := range 5*64 + 1 {
		for _, s := range []string{varied(n), strings.Repeat("\x00", n), strings.Repeat("\xff", n)} {
			if got := digest.Sum(s); got != hash(s) {
				t.Errorf("Sum(%q) = %x; want %x", s, got, hash(s))
			}
		}
	}
	for _, n := range []int{api.MaxString - 1, api.MaxString, api.MaxString + 1, 1 << 21, 1<<25 + 3} {
		s := strings.Repeat("quota", n/5) + varied(n%5)
		if got := digest.Sum(s); got != hash(s) {
			t.Errorf("Sum of %d bytes = %x; want %x", n, got, hash(s))
		}
	}
}

// TestSumOfBytes gives each byte value at each place of a block.
func TestSumOfBytes(t *testing.T) {
	for at := range 65 {
		b := []byte(varied(65))
		for value := range 256 {
			b[at] = byte(value)
			if got := digest.Sum(string(b)); got != hash(string(b)) {
				t.Fatalf("Sum(%q) = %x; want %x", b, got, hash(string(b)))
			}
		}
	}
}

// TestMarkedSums gives Chain, Leaf and Node parts of all sizes, whether they are digests or not.
func TestMarkedSums(t *testing.T) {
	sizes := []int{0, 1, 2, 22, 23, 24, 31, 32, 33, 54, 55, 56, 62, 63, 64, 65, 127, 128, 1000}
	for _, m := range sizes {
		a := varied(m)
		if got := digest.Leaf(a); got != hash("\x00", a) {
			t.Errorf("Leaf(%q) = %x; want %x", a, got, hash("\x00", a))
		}
		for _, n := range sizes {
			b := strings.Repeat("b", n)
			if got := digest.Node(a, b); got != hash("\x01", a, b) {
				t.Errorf("Node(%q, %q) = %x; want %x", a, b, got, hash("\x01", a, b))
			}
			if got := digest.Chain(a, b); got != hash("\x02", a, b) {
				t.Errorf("Chain(%q, %q) = %x; want %x", a, b, got, hash("\x02", a, b))
			}
		}
	}
}

// TestMarksKeepApart looks for strings of which one is a leaf and another one a node or a chain.
func TestMarksKeepApart(t *testing.T) {
	a, b := digest.Sum("a"), digest.Sum("b")
	seen := map[string]string{}
	for name, sum := range map[string]string{
		"Sum":           digest.Sum(a + b),
		"Leaf":          digest.Leaf(a + b),
		"Node":          digest.Node(a, b),
		"Node, swapped": digest.Node(b, a),
		"Chain":         digest.Chain(a, b),
		"Leaf of Node":  digest.Leaf("\x01" + a + b),
		"Leaf of Chain": digest.Leaf("\x02" + a + b),
	} {
		if seen[sum] != "" {
			t.Errorf("%s is %s", name, seen[sum])
		}
		seen[sum] = name
	}
}

// head returns the head of a list of records.
func head(records ...string) string {
	h := strings.Repeat("\x00", api.DigestSize)
	for _, record := range records {
		h = digest.Chain(h, record)
	}
	return h
}

// TestHeadsDiffer compares the heads of all lists of up to three of some records; among the records are those that a head could be mistaken for.
func TestHeadsDiffer(t *testing.T) {
	records := []string{"", "a", "b", "ab", "\x00", "\x02", head(), head("a"), head("a") + "b", "\x02" + head() + "a"}
	lists := [][]string{{}}
	for from := 0; len(lists[from]) < 3; from++ {
		for _, record := range records {
			lists = append(lists, append(append([]string{}, lists[from]...), record))
		}
	}
	seen := map[string][]string{}
	for _, l := range lists {
		h := head(l...)
		if other, found := seen[h]; found {
			t.Errorf("%q and %q have the same head", other, l)
		}
		seen[h] = l
	}
	if len(lists) != 1111 {
		t.Errorf("%d lists were compared", len(lists))
	}
}
