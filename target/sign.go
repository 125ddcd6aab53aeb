package target

import (
	"iter"
	"strings"

	"turnpike/api"
	"turnpike/octet"
)

// class is a set of classes of signs, a bit each.
type class uint8

const (
	unreserved class = 1 << iota
	subDelimiter
	colonOrAt
	slash
	question
)

// What may stand in a text beside percent triples.
const (
	nameSigns  = unreserved | subDelimiter
	pathSigns  = nameSigns | colonOrAt | slash
	querySigns = pathSigns | question
)

const (
	bigDigits    = "0123456789ABCDEF"
	tripleLength = len("%00")
	maxByte      = 255
)

// Decode is a text whose percent triples are the bytes that they stand for.
func Decode(s string) (string, int, api.Errno) {
	var b strings.Builder
	for at, sign := range signs(s) {
		switch {
		case isTriple(sign):
			b.WriteByte(tripleByte(sign))
		case sign == "%":
			return "", at, api.ErrPercent
		default:
			b.WriteString(sign)
		}
	}
	return b.String(), 0, api.OK
}

// Encode is a text with percent triples.
func Encode(s string) string {
	var b strings.Builder
	for _, c := range []byte(s) {
		if classOf(c) == unreserved {
			b.WriteByte(c)
			continue
		}
		b.WriteByte('%')
		b.WriteByte(bigDigits[c>>4])
		b.WriteByte(bigDigits[c&15])
	}
	return b.String()
}

func classOf(c byte) class {
	switch c {
	case '-', '.', '_', '~':
		return unreserved
	case '!', '$', '&', '\'', '(', ')', '*', '+', ',', ';', '=':
		return subDelimiter
	case ':', '@':
		return colonOrAt
	case '/':
		return slash
	case '?':
		return question
	}
	if 'a' <= c && c <= 'z' || 'A' <= c && c <= 'Z' || '0' <= c && c <= '9' {
		return unreserved
	}
	return 0
}

// signs goes through a text: each sign, a percent triple or else a byte, and its place.
func signs(s string) iter.Seq2[int, string] {
	return func(yield func(int, string) bool) {
		for at := 0; at < len(s); {
			length := 1
			if rest := s[at:]; len(rest) >= tripleLength && isTriple(rest[:tripleLength]) {
				length = tripleLength
			}
			if !yield(at, s[at:at+length]) {
				return
			}
			at += length
		}
	}
}

// pieces goes through what stands between the separators of a text; without one that is all of it.
func pieces(s, separator string) iter.Seq[string] {
	return func(yield func(string) bool) {
		piece, rest, more := strings.Cut(s, separator)
		for yield(piece) && more {
			piece, rest, more = strings.Cut(rest, separator)
		}
	}
}

func isTriple(s string) bool {
	if len(s) != tripleLength || s[0] != '%' {
		return false
	}
	_, err := octet.Hex(s[1:], maxByte)
	return err == api.OK
}

// tripleByte is the byte that a percent triple stands for.
func tripleByte(triple string) byte {
	n, _ := octet.Hex(triple[1:], maxByte)
	return byte(n)
}

// check is the place and the error of the first sign that is neither a percent triple nor of a class among these; a percent sign has an error of its own.
func check(s string, among class, other api.Errno) (int, api.Errno) {
	for at, sign := range signs(s) {
		switch {
		case isTriple(sign), classOf(sign[0])&among != 0:
		case sign == "%":
			return at, api.ErrPercent
		default:
			return at, other
		}
	}
	return 0, api.OK
}

// isOf tells whether all signs of a text are percent triples or of a class among these.
func isOf(s string, among class) bool {
	_, err := check(s, among, api.ErrArg)
	return err == api.OK
}
