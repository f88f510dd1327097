package pack

import "iter"

const (
	maxRun      = 128 // the greatest size of a run
	minCopy     = 4   // the least size of a copy
	maxCopy     = 131 // the greatest one
	maxDistance = 255 // of a copy
	copyMark    = 124 // what the first byte of a copy has more than its size
)

// piece is a run, whose capacity is its length, or, if this is empty, a copy.
type piece struct {
	run      []byte
	size     int
	distance int
}

// appendTo returns code with p at its end.
func (p piece) appendTo(code []byte) []byte {
	if len(p.run) == 0 {
		return append(code, byte(copyMark+p.size), byte(p.distance))
	}
	return append(append(code, byte(len(p.run)-1)), p.run...)
}

// pieces yields the pieces of which code consists, up to one that is not whole.
func pieces(code []byte) iter.Seq[piece] {
	return func(yield func(piece) bool) {
		rest := code
		for len(rest) > 1 {
			mark, end := int(rest[0]), 2
			p := piece{size: mark - copyMark, distance: int(rest[1])}
			if mark < maxRun {
				end += mark
				if end > len(rest) {
					return
				}
				p = piece{run: rest[1:end:end]}
			}
			if !yield(p) {
				return
			}
			rest = rest[end:]
		}
	}
}

// divided yields the pieces of the encoding of s.
func divided(s []byte) iter.Seq[piece] {
	return func(yield func(piece) bool) {
		start, place := 0, 0 // the bytes between them are not yielded yet
		yieldRun := func() bool {
			run := s[start:place:place]
			start = place
			return len(run) == 0 || yield(piece{run: run})
		}
		for place < len(s) {
			size, distance := bestMatch(s, place)
			if size >= minCopy {
				if !yieldRun() || !yield(piece{size: size, distance: distance}) {
					return
				}
				place += size
				start = place
				continue
			}
			place++
			if place-start == maxRun && !yieldRun() {
				return
			}
		}
		yieldRun()
	}
}

// bestMatch returns the size and the distance of the best match at place.
func bestMatch(s []byte, place int) (int, int) {
	size, distance := 0, 0
	for d := 1; d <= min(place, maxDistance); d++ {
		if n := match(s, place, d); n > size {
			size, distance = n, d
		}
	}
	return size, distance
}

// match returns the match at place with the distance.
func match(s []byte, place int, distance int) int {
	size := 0
	for size < maxCopy && place+size < len(s) && s[place+size] == s[place+size-distance] {
		size++
	}
	return size
}
