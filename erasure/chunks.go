package erasure

import "longliner/api"

// maxFrame is the size of the longest encoding of a string of at most api.MaxData bytes.
const maxFrame = 2 + api.MaxData

// mapped returns what change makes of the elements of l.
func mapped[T any, U any](l []T, change func(T) U) []U {
	changed := make([]U, len(l))
	for i, x := range l {
		changed[i] = change(x)
	}
	return changed
}

// columns returns the need chunks of which the columns of a frame consist.
func columns(frame string, need int) []api.Chunk {
	chunks := make([]api.Chunk, need)
	for i := range chunks {
		data := make([]byte, 0, len(frame)/need)
		for j := i; j < len(frame); j += need {
			data = append(data, frame[j])
		}
		chunks[i] = api.Chunk{Index: i, Data: string(data)}
	}
	return chunks
}

// interleaved returns the frame whose columns consist of chunks of the same length.
func interleaved(chunks []api.Chunk) string {
	frame := make([]byte, 0, len(chunks)*len(chunks[0].Data))
	for j := range len(chunks[0].Data) {
		for _, c := range chunks {
			frame = append(frame, c.Data[j])
		}
	}
	return string(frame)
}

// fit reports whether chunks may be some of the chunks of one string, as far as their number, indices and lengths tell. No chunk is longer than that of the longest string, so that the work on hostile chunks is bounded.
func fit(chunks []api.Chunk, need int, count int) bool {
	if len(chunks) < need || len(chunks) > count {
		return false
	}
	length := len(chunks[0].Data)
	if length*need > maxFrame+missing(maxFrame, need) {
		return false
	}
	var seen [api.MaxChunks]bool
	for _, c := range chunks {
		if c.Index < 0 || c.Index >= count || seen[c.Index] || len(c.Data) != length {
			return false
		}
		seen[c.Index] = true
	}
	return true
}
