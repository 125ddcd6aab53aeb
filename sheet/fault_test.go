package sheet

import (
	"errors"
	"testing"

	"turnpike/api"
)

// What is wrong within is an error that wraps the number; it is found whatever wraps the fault itself.
func TestFault(t *testing.T) {
	var err error = fault{7, api.ErrPart}
	if !errors.Is(err, api.ErrPart) || errors.Is(err, api.ErrShut) || err.Error() != "error 152 at 7" {
		t.Error("the fault:", err)
	}
	for _, err := range []error{err, errors.Join(errors.New("other"), err)} {
		if at, number := told(err); at != 7 || number != api.ErrPart {
			t.Error("told:", at, number)
		}
	}
	if at, number := told(nil); at != 0 || number != api.OK {
		t.Error("told of nothing:", at, number)
	}
}
