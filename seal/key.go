package seal

import (
	"iter"
	"strings"

	"longliner/api"
	"longliner/digest"
	"longliner/wire"
)

// Different first bytes keep steps and key strings apart from each other, and from the strings that package digest makes digests of.
const (
	stepMark = "\x04"
	keyMark  = "\x05"
)

// Only the first bytes of a message's digest are signed; each has two digits.
const (
	signedBytes = 8
	base        = api.ChainSize + 1
)

// A counts holds a number of steps for each chain.
type counts [api.Chains]int

// left returns how many steps are left to the ends of the chains.
func (c counts) left() counts {
	for i, n := range c {
		c[i] = api.ChainSize - n
	}
	return c
}

// digits returns the digits of a message whose digest is sum. The last two of them count what the others leave, so that they become less where others become greater: nobody can go forward in all chains.
func digits(sum string) counts {
	var d counts
	for i := range signedBytes {
		d[2*i], d[2*i+1] = int(sum[i])/base, int(sum[i])%base
	}
	left, total := d.left(), 0
	for _, n := range left[:2*signedBytes] {
		total += n
	}
	d[2*signedBytes], d[2*signedBytes+1] = total/base, total%base
	return d
}

// A key is the key of a seed with the number index.
type key struct {
	seed  string
	index int
}

// secrets yields the numbers and the secrets of the chains of the key.
func (k key) secrets() iter.Seq2[int, string] {
	return func(yield func(int, string) bool) {
		for chain := range api.Chains {
			numbers := encodings(wire.PutInt, k.index, chain)
			if !yield(chain, digest.Sum(numbers+k.seed)) {
				return
			}
		}
	}
}

// keyStrings returns the key strings of all keys of a seed.
func keyStrings(seed string, height int) []string {
	all := make([]string, 1<<height)
	for i := range all {
		ends := walked(key{seed, i}.secrets(), counts{}.left())
		all[i] = keyString(ends)
	}
	return all
}

// keyString returns the key string of the key whose chains have the ends.
func keyString(ends iter.Seq[string]) string {
	var text strings.Builder
	text.WriteString(keyMark)
	for end := range ends {
		text.WriteString(end)
	}
	return digest.Sum(text.String())
}

// walked yields, for each of the starts, what the steps for its number make of it.
func walked(starts iter.Seq2[int, string], steps counts) iter.Seq[string] {
	return func(yield func(string) bool) {
		for i, s := range starts {
			for range steps[i] {
				s = digest.Sum(stepMark + s)
			}
			if !yield(s) {
				return
			}
		}
	}
}
