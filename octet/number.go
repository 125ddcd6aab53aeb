package octet

import (
	"strconv"

	"turnpike/api"
)

const (
	decimalBase = 10
	hexBase     = 16
)

// Digits is a number in decimal digits.
func Digits(n int) string { return strconv.Itoa(n) }

// Decimal is the number that decimal digits say.
func Decimal(s string, most int) (int, api.Errno) { return number(s, decimalBase, most) }

// Hex is the number that hexadecimal digits say.
func Hex(s string, most int) (int, api.Errno) { return number(s, hexBase, most) }

// number reads on behind a number that is too big: a byte that is no digit counts ahead of it.
func number(s string, base, most int) (int, api.Errno) {
	if s == "" {
		return 0, api.ErrDigits
	}
	n, big := 0, false
	for _, c := range []byte(s) {
		d := digitValue(c)
		if d >= base {
			return 0, api.ErrDigits
		}
		// Held against most ahead of the sum, which could leave an int; a most below 0 is passed by the first digit.
		big = big || n > most/base || n == most/base && d > most%base
		if !big {
			n = n*base + d
		}
	}
	if big {
		return 0, api.ErrBig
	}
	return n, api.OK
}

// digitValue is what a hexadecimal digit says; hexBase, if a byte is none.
func digitValue(c byte) int {
	switch {
	case '0' <= c && c <= '9':
		return int(c - '0')
	case 'a' <= c && c <= 'f':
		return int(c-'a') + 10
	case 'A' <= c && c <= 'F':
		return int(c-'A') + 10
	}
	return hexBase
}
