package sheet

import (
	"errors"

	"turnpike/api"
	"turnpike/octet"
)

// fault is what is wrong within a body in parts: a number, and the place that is told with it.
type fault struct {
	at     int
	number error
}

// Error is a fault's text.
func (f fault) Error() string { return f.number.Error() + " at " + octet.Digits(f.at) }

// Unwrap is the number that a fault wraps.
func (f fault) Unwrap() error { return f.number }

// told is the place and the number of what is wrong; 0 and OK, if nothing is.
func told(err error) (int, api.Errno) {
	var f fault
	var number api.Errno
	if !errors.As(err, &f) || !errors.As(err, &number) {
		return 0, api.OK
	}
	return f.at, number
}
