package base

import (
	"strings"

	"turnpike/api"
)

// digits are the hexadecimal digits, each at its number.
const digits = "0123456789abcdef"

// Hex is two hexadecimal digits for each byte.
func Hex(s string) string {
	out := make([]byte, 0, 2*len(s))
	for i := range len(s) {
		out = append(out, digits[s[i]>>4], digits[s[i]&15])
	}
	return string(out)
}

// Unhex is the bytes of hexadecimal digits.
func Unhex(s string) (string, int, api.Errno) {
	out := make([]byte, (len(s)+1)/2)
	for i := range len(s) {
		n := strings.IndexByte(digits, s[i])
		if n < 0 {
			return "", i, api.ErrHex
		}
		out[i/2] = out[i/2]<<4 | byte(n)
	}
	if len(s)%2 != 0 {
		return "", len(s), api.ErrHex
	}
	return string(out), 0, api.OK
}
