package seal

import (
	"errors"
	"strings"
	"testing"

	"longliner/api"
)

// wrapped is an error around another one.
type wrapped struct {
	error
}

func (w wrapped) Unwrap() error {
	return w.error
}

// TestReason: whatever stops a reading, it is told by a code.
func TestReason(t *testing.T) {
	for _, x := range []struct {
		stop any
		want api.Errno
	}{
		{nil, api.OK},
		{refusal{api.ErrWire}, api.ErrWire},
		{wrapped{refusal{api.ErrWire}}, api.ErrWire},
		{errors.New("another error"), api.ErrSeal},
		{"no error", api.ErrSeal},
	} {
		if got := reason(x.stop); got != x.want {
			t.Errorf("reason(%v) = %d; want %d", x.stop, got, x.want)
		}
	}
	if text := (refusal{api.ErrSeal}).Error(); !strings.HasSuffix(text, " 80") {
		t.Errorf("Error() = %s", text)
	}
}

func TestSequencesCanBeLeft(t *testing.T) {
	secrets := []string{}
	for i, s := range (key{"a", 0}).secrets() {
		if secrets = append(secrets, s); i == 2 {
			break
		}
	}
	values := []string{}
	for s := range walked(key{"a", 0}.secrets(), counts{}) {
		if values = append(values, s); len(values) == 3 {
			break
		}
	}
	if len(secrets) != 3 || len(values) != 3 || secrets[2] != values[2] {
		t.Errorf("%x and %x", secrets, values)
	}
}
