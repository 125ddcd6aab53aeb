package socket

import (
	"unicode/utf8"

	"turnpike/api"
)

// The codes from the first one on, as far as a peer closes with them of its own.
const (
	_          = 1000 + iota
	_          // 1001
	codeWrong  // 1002: a frame that may not come
	_          // 1003
	_          // 1004
	codeNone   // 1005: that there is no code, so no body may say it
	_          // 1006
	codeNoText // 1007: a text that is none
	_          // 1008
	codeLarge  // 1009: a message that is too long
)

// maxReason is how many bytes a reason may have.
const maxReason = maxControl - sizeCode

// IsText tells whether a text is characters by UTF-8.
func IsText(s string) bool { return utf8.ValidString(s) }

// PrintClose is a close body.
func PrintClose(code int, reason string) (string, api.Errno) {
	switch {
	case code == 0 && reason == "":
		return "", api.OK
	case !isCode(code):
		return "", api.ErrClose
	case !IsText(reason), len(reason) > maxReason:
		return "", api.ErrText
	}
	return string(append(appendNumber(nil, uint64(code), sizeCode), reason...)), api.OK
}

// ParseClose is what a close body says.
func ParseClose(body string) (int, string, api.Errno) {
	switch {
	case body == "":
		return codeNone, "", api.OK
	case len(body) < sizeCode, len(body) > maxControl:
		return 0, "", api.ErrClose
	}
	code, reason := int(number(body[:sizeCode])), body[sizeCode:]
	switch {
	case !isCode(code):
		return 0, "", api.ErrClose
	case !IsText(reason):
		return 0, "", api.ErrText
	}
	return code, reason, api.OK
}

func isCode(n int) bool {
	return n >= 1000 && n <= 1003 || n >= 1007 && n <= 1011 || n >= 3000 && n <= 4999
}
