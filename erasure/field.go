package erasure

import "longliner/api"

const (
	elements = 256          // how many there are
	units    = elements - 1 // how many of them have an inverse; these are the powers of 2
	modulus  = 0x11D        // x^8 + x^4 + x^3 + x^2 + 1
)

// field calculates with elements.
type field struct {
	product  func(a byte, b byte) byte
	quotient func(a byte, b byte) byte // b is not 0
}

// newField returns a field whose functions share tables of the powers of 2 and of their logarithms.
func newField() field {
	var powers [units]byte
	var logarithms [elements]byte
	power := 1
	for i := range powers {
		powers[i] = byte(power)
		logarithms[power] = byte(i)
		power *= 2
		if power >= elements {
			power ^= modulus
		}
	}
	product := func(a byte, b byte) byte {
		if a == 0 || b == 0 {
			return 0
		}
		return powers[(int(logarithms[a])+int(logarithms[b]))%units]
	}
	quotient := func(a byte, b byte) byte {
		if a == 0 {
			return 0
		}
		return powers[(int(logarithms[a])+units-int(logarithms[b]))%units]
	}
	return field{product, quotient}
}

// weights returns the elements with which the values at the points, which are all different, are multiplied, so that the sum of the products is the value at x of the polynomial that has these values (Lagrange).
func (f field) weights(points []byte, x byte) []byte {
	weight := func(p byte) byte {
		w := byte(1)
		for _, q := range points {
			if q != p {
				w = f.product(w, f.quotient(x^q, p^q))
			}
		}
		return w
	}
	return mapped(points, weight)
}

// extended returns the chunks with the indices from 0 to count - 1, whose bytes are the values of the polynomials that the known chunks determine; these have the same length.
func (f field) extended(known []api.Chunk, count int) []api.Chunk {
	points := mapped(known, func(c api.Chunk) byte { return byte(c.Index) })
	chunks := make([]api.Chunk, count)
	for i := range chunks {
		data := make([]byte, len(known[0].Data))
		for k, w := range f.weights(points, byte(i)) {
			for j := range data {
				data[j] ^= f.product(w, known[k].Data[j])
			}
		}
		chunks[i] = api.Chunk{Index: i, Data: string(data)}
	}
	return chunks
}
