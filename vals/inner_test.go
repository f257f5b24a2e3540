package vals

import (
	"errors"
	"testing"

	"skylark/api"
)

// Promise P1: what a call gave up with is told; a panic of another kind is not taken for an answer.
func TestRefusalIn(t *testing.T) {
	for _, e := range []api.Errno{api.ErrValue, api.ErrDown, api.ErrNone} {
		if got := refusalIn(e); got != e {
			t.Error(got, e)
		}
	}
	if e := refusalIn(nil); e != api.OK {
		t.Error(e)
	}
	other := errors.New("other")
	defer func() {
		if r := recover(); r != other {
			t.Error(r)
		}
	}()
	refusalIn(other)
	t.Error("went on")
}
