package accept

import (
	"strings"

	"turnpike/api"
	"turnpike/octet"
)

// whole is the quality of what is liked without reserve; its zeros are those that a text may leave out.
const (
	whole = 1000
	zeros = "000"
)

// Quality reads a quality.
func Quality(s string) (int, api.Errno) {
	unit, digits, _ := strings.Cut(s, ".")
	if len(unit) != 1 || len(digits) > len(zeros) {
		return 0, api.ErrQuality
	}
	// As thousandths: what is above 1 is above the limit then.
	q, err := octet.Decimal(unit+digits+zeros[len(digits):], whole)
	if err != api.OK {
		return 0, api.ErrQuality
	}
	return q, api.OK
}

// PrintQuality is a quality as text.
func PrintQuality(q int) (string, api.Errno) {
	if q < 0 || q > whole {
		return "", api.ErrQuality
	}
	// A whole more keeps the zeros ahead of the digits.
	digits := octet.Digits(whole + q%whole)[1:]
	text := octet.Digits(q/whole) + "." + strings.TrimRight(digits, "0")
	return strings.TrimSuffix(text, "."), api.OK
}
