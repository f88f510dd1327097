package seal

import (
	"errors"
	"strconv"
	"strings"

	"longliner/api"
	"longliner/wire"
)

// encodings returns what put makes of all the values, one after the other. They are so small that they have an encoding.
func encodings[T any](put func(T) (string, api.Errno), all ...T) string {
	var code strings.Builder
	for _, x := range all {
		one, _ := put(x)
		code.WriteString(one)
	}
	return code.String()
}

// A refusal is the error with which a reader stops.
type refusal struct {
	code api.Errno
}

// Error says what the refusal is.
func (r refusal) Error() string {
	return "refused with the error " + strconv.Itoa(int(r.code))
}

// refuse stops the reading with a code if something is wrong.
func refuse(wrong bool, code api.Errno) {
	if wrong {
		panic(refusal{code})
	}
}

// reason returns the code with which a reading was stopped, where stop is what was recovered.
func reason(stop any) api.Errno {
	switch err := stop.(type) {
	case nil:
		return api.OK
	case error:
		var r refusal
		if errors.As(err, &r) {
			return r.code
		}
	}
	return api.ErrSeal // no panic gets out, whatever it is
}

// A reader reads what is encoded in text, from the offset at on. What it cannot read, it refuses.
type reader struct {
	text string
	at   int
}

// seal reads a seal that is all that is left.
func (r *reader) seal() api.Seal {
	index, size := r.integer(), r.integer()
	refuse(size < 0 || size > api.MaxHeight, api.ErrSeal)
	s := api.Seal{Index: index, Chains: r.texts(api.Chains), Path: r.texts(size)}
	refuse(r.at < len(r.text), api.ErrWire)
	refuse(!isValid(s), api.ErrSeal)
	return s
}

// integer reads an integer.
func (r *reader) integer() int {
	n, next, e := wire.Int(r.text, r.at)
	refuse(e != api.OK, api.ErrWire)
	r.at = next
	return n
}

// texts reads n strings.
func (r *reader) texts(n int) []string {
	all := make([]string, n)
	for i := range all {
		s, next, e := wire.String(r.text, r.at)
		refuse(e != api.OK, api.ErrWire)
		all[i], r.at = strings.Clone(s), next // a clone does not keep the text alive
	}
	return all
}
