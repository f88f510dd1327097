package erasure_test

import (
	"math"
	"slices"
	"strings"
	"testing"

	"longliner/api"
	"longliner/digest"
	"longliner/erasure"
)

// notValid are parameters that are not valid.
var notValid = [][2]int{
	{0, 0}, {0, 1}, {0, 4}, {0, 16}, {-1, -1}, {-1, 0}, {-1, 4}, {1, 0}, {1, -1}, {2, 1}, {5, 4}, {16, 15}, {1, 17}, {4, 17}, {16, 17}, {17, 17}, {17, 16},
	{math.MinInt, 4}, {math.MaxInt, 4}, {4, math.MinInt}, {4, math.MaxInt}, {math.MaxInt, math.MaxInt}, {math.MinInt, math.MinInt}, {1 << 32, 1 << 32}, {1<<32 + 1, 1<<32 + 2},
}

func TestEncodeExamples(t *testing.T) {
	for _, c := range []struct {
		s           string
		need, count int
		data        []string
	}{
		{"ab", 1, 2, []string{"\x04ab", "\x04ab"}},
		{"ab", 3, 4, []string{"\x04", "a", "b", "\x07"}},
		{"", 1, 1, []string{"\x00"}},
		{"", 3, 3, []string{"\x00", "\x00", "\x00"}},
		{"abc", 3, 3, []string{"\x06c", "a\x00", "b\x00"}},
	} {
		want := []api.Chunk{}
		for i, data := range c.data {
			want = append(want, api.Chunk{Index: i, Data: data})
		}
		if got := encoded(t, c.s, c.need, c.count); !slices.Equal(got, want) {
			t.Errorf("Encode(%q, %d, %d) = %v; want %v", c.s, c.need, c.count, got, want)
		}
	}
}

func TestEncodeFollowsItsDefinition(t *testing.T) {
	for need, count := range parameters {
		for i, s := range texts() {
			if i%5 != (need+count)%5 && len(s) > 3 {
				continue
			}
			want := chunksOf(frameOf(s, need), need, count)
			if got := encoded(t, s, need, count); !slices.Equal(got, want) {
				t.Errorf("Encode(%q, %d, %d) = %v; want %v", s, need, count, got, want)
			}
		}
	}
}

// TestFirstChunksContainTheFrame also measures the chunks.
func TestFirstChunksContainTheFrame(t *testing.T) {
	r := dice()
	l := append(texts(), noise(r, 4095), noise(r, 4096), strings.Repeat("\x00", 4096))
	for need, count := range parameters {
		for _, s := range l {
			want := frameOf(s, need)
			chunks := encoded(t, s, need, count)
			for i, c := range chunks {
				if c.Index != i || len(c.Data) != len(want)/need {
					t.Fatalf("Encode(%.30q, %d, %d): the chunk %d has the Index %d and %d bytes", s, need, count, i, c.Index, len(c.Data))
				}
			}
			got := []byte{}
			for j := range len(want) {
				got = append(got, chunks[j%need].Data[j/need])
			}
			if string(got) != want {
				t.Errorf("the first chunks of Encode(%.30q, %d, %d) contain %.60q; want %.60q", s, need, count, got, want)
			}
		}
	}
}

func TestEncodeRefuses(t *testing.T) {
	for _, s := range []string{"", "a", strings.Repeat("a", 4096), strings.Repeat("a", 4097)} {
		for _, p := range notValid {
			if l, e := erasure.Encode(s, p[0], p[1]); l != nil || e != api.ErrErasure {
				t.Errorf("Encode(%.30q, %d, %d) = %v, %d; want ErrErasure", s, p[0], p[1], l, e)
			}
		}
	}
	for need, count := range parameters {
		for _, n := range []int{4097, 4098, 4112, 8192, 65536, 65537, 200000} {
			if l, e := erasure.Encode(strings.Repeat("a", n), need, count); l != nil || e != api.ErrErasure {
				t.Errorf("Encode of %d bytes, %d, %d: %d chunks, %d; want ErrErasure", n, need, count, len(l), e)
			}
		}
	}
}

func TestRoot(t *testing.T) {
	l := encoded(t, "ab", 3, 4)
	odd := []api.Chunk{{Index: 7, Data: "x"}, {Index: -1}, {Index: 7, Data: "y"}}
	for _, c := range []struct {
		chunks []api.Chunk
		data   []string
	}{
		{nil, nil},
		{[]api.Chunk{}, nil},
		{l, []string{"\x04", "a", "b", "\x07"}},
		{l[1:3], []string{"a", "b"}},
		{l[:1], []string{"\x04"}},
		{odd, []string{"x", "", "y"}},
	} {
		if got := erasure.Root(c.chunks); got != digest.Root(c.data) {
			t.Errorf("Root(%v) = %x; want %x", c.chunks, got, digest.Root(c.data))
		}
	}
	other := slices.Clone(l)
	slices.Reverse(other)
	if erasure.Root(other) == erasure.Root(l) {
		t.Error("the order of the chunks does not matter")
	}
}

// TestRootsDifferExactlyIfTheStringsDo compares all pairs of strings.
func TestRootsDifferExactlyIfTheStringsDo(t *testing.T) {
	l := texts()
	for n := range 20 { // strings of zeros differ in their frames' lengths, or in the first byte only
		l = append(l, strings.Repeat("\x00", n), "a"+strings.Repeat("\x00", n))
	}
	slices.Sort(l)
	l = slices.Compact(l)
	for need, count := range parameters {
		roots := map[string]string{}
		for _, s := range l {
			root := erasure.Root(encoded(t, s, need, count))
			if other, ok := roots[root]; ok {
				t.Errorf("%q and %q have the same root with %d of %d", s, other, need, count)
			}
			roots[root] = s
			if again := erasure.Root(encoded(t, s, need, count)); again != root {
				t.Errorf("%q has two roots", s)
			}
		}
	}
}

func TestChunksAreNewMemory(t *testing.T) {
	for need, count := range parameters {
		want := encoded(t, "cod 40", need, count)
		l := encoded(t, "cod 40", need, count)
		for i := range l[:cap(l)] {
			l[:cap(l)][i] = api.Chunk{Index: 99, Data: "x"}
		}
		if got := encoded(t, "cod 40", need, count); !slices.Equal(got, want) {
			t.Errorf("a change of earlier chunks changes those of Encode: %v", got)
		}
	}
}
