package erasure_test

import (
	"math"
	"math/bits"
	"runtime"
	"slices"
	"strings"
	"testing"

	"longliner/api"
	"longliner/erasure"
)

// TestEnoughChunksRestoreTheString tries all sets of chunks, for all parameters up to 10 chunks.
func TestEnoughChunksRestoreTheString(t *testing.T) {
	r := dice()
	for need, count := range parameters {
		if count > 10 {
			continue
		}
		for _, s := range []string{"", "hake 7", noise(r, 70)} {
			l := encoded(t, s, need, count)
			for mask := range 1 << count {
				if chosen := some(r, l, mask); len(chosen) >= need {
					expectDecoded(t, chosen, need, count, s)
				} else {
					expectRefused(t, chosen, need, count)
				}
			}
		}
	}
}

func TestEnoughChunksOfManyRestoreTheString(t *testing.T) {
	r := dice()
	for need, count := range parameters {
		for _, s := range []string{noise(r, r.IntN(300)), noise(r, 4096), strings.Repeat("\x00", 4096)} {
			l := encoded(t, s, need, count)
			for range 8 {
				mask := r.IntN(1 << count)
				for bits.OnesCount(uint(mask)) < need {
					mask |= 1 << r.IntN(count)
				}
				expectDecoded(t, some(r, l, mask), need, count, s)
			}
			expectDecoded(t, l, need, count, s)
			expectDecoded(t, l[count-need:], need, count, s)
		}
	}
}

// TestFewerThanNeedChunksAreEqual compares strings that differ in one byte, or in as few columns as possible, or whose redundant chunks are made equal on purpose.
func TestFewerThanNeedChunksAreEqual(t *testing.T) {
	r := dice()
	for need, count := range parameters {
		for range 20 {
			s := noise(r, 20+r.IntN(30))
			b := []byte(s)
			for range 1 + r.IntN(3) {
				b[r.IntN(len(b))] ^= byte(1 << r.IntN(8))
			}
			if u := string(b); u != s {
				expectDistance(t, s, u, need, count)
			}
			expectDistance(t, s, s+"\x00", need, count)
		}
	}
}

// expectDistance counts the equal chunks of two different strings.
func expectDistance(t *testing.T, s string, u string, need int, count int) {
	t.Helper()
	a, b := encoded(t, s, need, count), encoded(t, u, need, count)
	equal := 0
	for i := range a {
		if a[i] == b[i] {
			equal++
		}
	}
	if len(a[0].Data) == len(b[0].Data) && equal >= need {
		t.Errorf("%q and %q have %d of %d equal chunks, and %d are enough", s, u, equal, count, need)
	}
}

// TestNeedLessOneChunksCanBeEqual makes, from any need - 1 chunks of a string and another byte in one more chunk, another string: so Decode must not rely on fewer than need.
func TestNeedLessOneChunksCanBeEqual(t *testing.T) {
	s := "abcdefghijklmn" // with its length, three columns of 5
	l := encoded(t, s, 5, 9)
	found := 0
	for mask := range 1 << 9 {
		if bits.OnesCount(uint(mask)) != 5 {
			continue
		}
		chosen := some(dice(), l, mask)
		c := chosen[4]
		data := []byte(c.Data)
		data[2] ^= 0x55
		changed := with(chosen, 4, api.Chunk{Index: c.Index, Data: string(data)})
		u, e := erasure.Decode(changed, 5, 9)
		if e != api.OK || u == s {
			t.Errorf("Decode(%v) = %q, %d", changed, u, e)
			continue
		}
		found++
		for _, x := range changed {
			if encoded(t, u, 5, 9)[x.Index] != x {
				t.Errorf("%v is not a chunk of %q", x, u)
			}
		}
		for _, x := range l { // a fifth one of the same string cannot be added
			if mask>>x.Index&1 == 0 {
				expectRefused(t, append(slices.Clone(changed), x), 5, 9)
			}
		}
	}
	if found != 126 {
		t.Errorf("%d strings; want 126", found)
	}
}

// TestOneReplacedChunkIsDetected replaces each of more than need chunks.
func TestOneReplacedChunkIsDetected(t *testing.T) {
	r := dice()
	for need, count := range parameters {
		if need == count {
			continue
		}
		s := noise(r, 1+r.IntN(40))
		l := encoded(t, s, need, count)
		for size := need + 1; size <= count; size++ {
			mask := 0
			for bits.OnesCount(uint(mask)) < size {
				mask |= 1 << r.IntN(count)
			}
			chosen := some(r, l, mask)
			for i, c := range chosen {
				data := []byte(c.Data)
				data[r.IntN(len(data))] ^= byte(1 + r.IntN(255))
				for _, other := range []string{string(data), noise(r, len(data)), strings.Repeat("\x00", len(data))} {
					if other != c.Data {
						expectRefused(t, with(chosen, i, api.Chunk{Index: c.Index, Data: other}), need, count)
					}
				}
			}
		}
	}
}

// TestDecodeRefusesEachOtherByte replaces single bytes of chunks by all other ones.
func TestDecodeRefusesEachOtherByte(t *testing.T) {
	l := encoded(t, "abcde", 3, 5)
	for i, c := range l {
		for j := range len(c.Data) {
			for v := range 256 {
				data := c.Data[:j] + string([]byte{byte(v)}) + c.Data[j+1:]
				if data != c.Data {
					expectRefused(t, with(l, i, api.Chunk{Index: i, Data: data}), 3, 5)
				}
			}
		}
	}
}

// TestDecodeAcceptsOnlyFramesOfStrings goes through all frames of one and two bytes for two chunks of which two are needed, and of two bytes for one.
func TestDecodeAcceptsOnlyFramesOfStrings(t *testing.T) {
	for a := range 256 {
		for b := range 256 {
			x, y := string([]byte{byte(a)}), string([]byte{byte(b)})
			pair := []api.Chunk{{Index: 1, Data: y}, {Index: 0, Data: x}}
			switch {
			case a == 0 && b == 0:
				expectDecoded(t, pair, 2, 2, "")
			case a == 2:
				expectDecoded(t, pair, 2, 2, y)
			default:
				expectRefused(t, pair, 2, 2)
			}
			if alone := []api.Chunk{{Index: 0, Data: x + y}}; a == 2 {
				expectDecoded(t, alone, 1, 1, y)
			} else {
				expectRefused(t, alone, 1, 1)
			}
		}
	}
}

// TestDecodeRefusesFramesOfNoString makes chunks of strings of bytes that are no frames.
func TestDecodeRefusesFramesOfNoString(t *testing.T) {
	for _, frame := range []string{
		"\x04abc",                              // another byte after the string, where a zero would fill the column
		"\x04ab\x00\x00\x00\x00\x00",           // a superfluous column of zeros
		"\x00\x00\x00\x00\x00\x00\x00\x00",     // the same, of the empty string
		"\x04ab\x00\x00\x00\x00\x01",           // and of others
		"\x06ab\x00\x00\x00\x00\x00",           // the same after a string that ends in a zero
		"\x0aab\x00",                           // fewer bytes than the length says
		"\x03ab\x00",                           // a negative length
		"\x84\x00ab",                           // a length with a superfluous zero group
		"\x80\x80\x80\x80",                     // a length that does not end
		"\xff\xff\xff\xff\xff\xff\xff\xff\x7f", // a length that is too small
		"\xff\xff\xff\xff\xff\xff\xff\xff\xff\xff\xff\xff",
		frameOf(strings.Repeat("a", 4097), 4), // strings that are too long
		frameOf(strings.Repeat("a", 4099), 4),
		frameOf(strings.Repeat("a", 8190), 4),
		frameOf(strings.Repeat("\x00", 4098), 4),
		frameOf(strings.Repeat("a", 4097), 1),
		frameOf(strings.Repeat("a", 65536), 4),
		frameOf(strings.Repeat("a", 65537), 4),
	} {
		for _, need := range []int{4, 1, 2} {
			if len(frame)%need > 0 || need == 1 && len(frame)%4 == 0 {
				continue
			}
			l := spread(frame, need, need+2)
			expectRefused(t, l, need, need+2)
			expectRefused(t, l[2:], need, need+2)
			expectRefused(t, l[:need], need, need+2)
		}
	}
}

// spread returns the chunks of a frame that may be long.
func spread(frame string, need int, count int) []api.Chunk {
	points := []int{}
	for i := range need {
		points = append(points, i)
	}
	units := make([][]int, count)
	for i := range units {
		for k := range need {
			unit := make([]int, need)
			unit[k] = 1
			units[i] = append(units[i], valueAt(points, unit, i))
		}
	}
	l := make([]api.Chunk, count)
	for i := range l {
		data := []byte{}
		for at := 0; at < len(frame); at += need {
			value := 0
			for k := range need {
				value ^= times(units[i][k], int(frame[at+k]))
			}
			data = append(data, byte(value))
		}
		l[i] = api.Chunk{Index: i, Data: string(data)}
	}
	return l
}

func TestDecodeRefusesParameters(t *testing.T) {
	l := encoded(t, "a", 1, 16)
	for _, p := range notValid {
		for n := range 17 {
			expectRefused(t, l[:n], p[0], p[1])
		}
	}
	expectRefused(t, append(l, api.Chunk{Index: 16, Data: l[0].Data}), 1, 17)
}

// TestDecodeRefusesOtherParameters decodes chunks with parameters that they were not made with.
func TestDecodeRefusesOtherParameters(t *testing.T) {
	l := encoded(t, "cod 40; hake 7", 3, 6)
	for need, count := range parameters {
		if need != 3 && len(l) > need {
			expectRefused(t, l, need, count)
		}
	}
	expectRefused(t, l, 3, 5)
	expectRefused(t, l[2:], 3, 5)
	expectDecoded(t, l[:5], 3, 5, "cod 40; hake 7")
	expectDecoded(t, l, 3, 7, "cod 40; hake 7")
	if erasure.Consistent(l, 3, 7) || erasure.Consistent(l, 3, 5) {
		t.Error("Consistent with a wrong count")
	}
}

func TestDecodeRefusesNumbersOfChunks(t *testing.T) {
	for need, count := range parameters {
		l := encoded(t, "hake 7", need, count)
		expectRefused(t, nil, need, count)
		expectRefused(t, []api.Chunk{}, need, count)
		expectRefused(t, l[:need-1], need, count)
		expectRefused(t, append(slices.Clone(l), l[0]), need, count)
		expectRefused(t, append(slices.Clone(l), api.Chunk{Index: count, Data: l[0].Data}), need, count)
		expectRefused(t, slices.Repeat(l[:1], 1000), need, count)
	}
}

func TestDecodeRefusesIndices(t *testing.T) {
	for need, count := range parameters {
		l := encoded(t, "hake 7", need, count)
		for i := range l {
			for _, index := range []int{-1, -count, -256, count, count + 1, 16, 255, 256 + i, 1<<32 + i, math.MinInt, math.MinInt + i, math.MaxInt} {
				expectRefused(t, with(l, i, api.Chunk{Index: index, Data: l[i].Data}), need, count)
			}
			for k := range l {
				if k != i {
					expectRefused(t, with(l, i, l[k]), need, count)
				}
				if l[k].Data != l[i].Data && count >= need+2 { // the others determine the string
					changed := with(l, i, api.Chunk{Index: k, Data: l[i].Data})
					expectRefused(t, with(changed, k, api.Chunk{Index: i, Data: l[k].Data}), need, count)
				}
			}
		}
	}
}

func TestDecodeRefusesLengths(t *testing.T) {
	for need, count := range parameters {
		l := encoded(t, "cod 40; hake 7; cod 12; hake 31", need, count)
		for i, c := range l {
			for _, data := range []string{"", c.Data[1:], c.Data[:len(c.Data)-1], c.Data + "\x00", "\x00" + c.Data, c.Data + c.Data} {
				expectRefused(t, with(l, i, api.Chunk{Index: i, Data: data}), need, count)
			}
		}
		for _, data := range []string{"", "\x00\x00", strings.Repeat("\x00", 4098)} {
			zeros := []api.Chunk{}
			for i := range count {
				zeros = append(zeros, api.Chunk{Index: i, Data: data})
			}
			expectRefused(t, zeros, need, count)
		}
	}
}

// TestHostileChunksCostLittle: chunks of a frame that is too long are refused before it is put together.
func TestHostileChunksCostLittle(t *testing.T) {
	data := strings.Repeat("\xfe", 1<<20)
	l := []api.Chunk{}
	for i := range 16 {
		l = append(l, api.Chunk{Index: i, Data: data})
	}
	var before, after runtime.MemStats
	runtime.ReadMemStats(&before)
	for need := 1; need <= 16; need++ {
		expectRefused(t, l, need, 16)
	}
	runtime.ReadMemStats(&after)
	if used := after.TotalAlloc - before.TotalAlloc; used > 1<<20 {
		t.Errorf("%d bytes are used for chunks that are too long", used)
	}
}

func TestConsistent(t *testing.T) {
	r := dice()
	for need, count := range parameters {
		for _, s := range []string{"", "hake 7", noise(r, 200), noise(r, 4096)} {
			l := encoded(t, s, need, count)
			if !erasure.Consistent(l, need, count) {
				t.Errorf("the chunks of %.30q with %d of %d are not consistent", s, need, count)
			}
			for i := range count {
				if erasure.Consistent(slices.Delete(slices.Clone(l), i, i+1), need, count) {
					t.Errorf("the chunks of %.30q with %d of %d without %d are consistent", s, need, count, i)
				}
				for k := range i {
					if erasure.Consistent(with(with(l, i, l[k]), k, l[i]), need, count) {
						t.Errorf("the chunks of %.30q with %d of %d are consistent with %d and %d exchanged", s, need, count, i, k)
					}
				}
			}
			if erasure.Consistent(append(slices.Clone(l), l[0]), need, count) {
				t.Errorf("the chunks of %.30q with %d of %d and one more are consistent", s, need, count)
			}
		}
	}
	if erasure.Consistent(nil, 0, 0) || erasure.Consistent(nil, 1, 0) || erasure.Consistent(nil, 1, 1) {
		t.Error("no chunks are consistent")
	}
}

func TestArgumentsAreNotChanged(t *testing.T) {
	l := encoded(t, "cod 40; hake 7", 3, 6)
	slices.Reverse(l)
	room := slices.Grow(slices.Clone(l), 5)
	spare := room[:cap(room)]
	for i := len(l); i < len(spare); i++ {
		spare[i] = api.Chunk{Index: 77, Data: "spare"}
	}
	want := slices.Clone(spare)
	expectDecoded(t, room, 3, 6, "cod 40; hake 7")
	expectRefused(t, room[:2], 3, 6)
	erasure.Consistent(room, 3, 6)
	erasure.Root(room)
	if !slices.Equal(spare, want) {
		t.Errorf("the chunks are changed: %v; want %v", spare, want)
	}
}
