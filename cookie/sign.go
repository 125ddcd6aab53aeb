package cookie

import "strings"

const (
	slash     = "/"
	point     = "."
	quote     = `"`
	maxDomain = 255
)

// notInValue is the signs that may not stand in a value, notInPath those that may not in a path.
const (
	notInValue = `",;\`
	notInPath  = ";"
)

// isValue tells whether a text is a value. One quote alone is not two.
func isValue(s string) bool {
	if len(s) > len(quote) && strings.HasPrefix(s, quote) && strings.HasSuffix(s, quote) {
		s = s[len(quote) : len(s)-len(quote)]
	}
	return hasSigns(s, notInValue)
}

func isPath(s string) bool { return strings.HasPrefix(s, slash) && hasSigns(s, notInPath) }

// hasSigns tells whether a text has signs that can be seen alone, and none of those that are left out.
func hasSigns(s, out string) bool {
	for _, c := range []byte(s) {
		if c <= ' ' || c > '~' || strings.IndexByte(out, c) >= 0 {
			return false
		}
	}
	return true
}

func isDomain(s string) bool {
	if s == "" || len(s) > maxDomain || strings.HasPrefix(s, point) {
		return false
	}
	for _, c := range []byte(s) {
		if !isDomainSign(c) {
			return false
		}
	}
	return true
}

func isDomainSign(c byte) bool {
	return 'a' <= c && c <= 'z' || '0' <= c && c <= '9' || c == '-' || c == '.'
}
