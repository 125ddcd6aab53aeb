// Package octet is layer 1: see shared/doc/01-octet.md.
package octet

import "strings"

// tokenSigns has a bit for each byte, 64 of them a word: 1 for a sign of tokens.
var tokenSigns = [4]uint64{
	0x03ff6cfa00000000, // ! # $ % & ' * + - . and the digits
	0x57ffffffc7fffffe, // ^ _ ` | ~ and the letters
	0,
	0,
}

const blanks = " \t"

// IsToken tells whether a text is a token.
func IsToken(s string) bool { return s != "" && tokenLength(s) == len(s) }

// IsField tells whether a text may stand in a field.
func IsField(s string) bool {
	for _, c := range []byte(s) {
		if !isFieldByte(c) {
			return false
		}
	}
	return true
}

// Lower is a text with small letters.
func Lower(s string) string {
	b := []byte(s)
	for i, c := range b {
		b[i] = lowerByte(c)
	}
	return string(b)
}

// Same tells whether two texts are the same, whatever their letters' case.
func Same(a, b string) bool {
	if len(a) != len(b) {
		return false
	}
	for i, c := range []byte(a) {
		if lowerByte(c) != lowerByte(b[i]) {
			return false
		}
	}
	return true
}

// Trim is a text without the blanks around it.
func Trim(s string) string { return strings.Trim(s, blanks) }

func isTokenSign(c byte) bool { return tokenSigns[c/64]>>(c%64)&1 == 1 }

func isFieldByte(c byte) bool { return c == '\t' || c >= ' ' && c != 127 }

func lowerByte(c byte) byte {
	if 'A' <= c && c <= 'Z' {
		return c - 'A' + 'a'
	}
	return c
}

// tokenLength is how many bytes the longest token at the front has; 0: there is none.
func tokenLength(s string) int {
	for i, c := range []byte(s) {
		if !isTokenSign(c) {
			return i
		}
	}
	return len(s)
}

// blankLength is how many blanks stand at the front.
func blankLength(s string) int { return len(s) - len(strings.TrimLeft(s, blanks)) }
