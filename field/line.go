package field

import (
	"strings"

	"turnpike/api"
	"turnpike/octet"
)

const (
	colon   = ":"
	lineEnd = "\r\n"
)

// ParseLine reads a line without its end.
func ParseLine(line string) (api.Field, int, api.Errno) {
	if line != "" && octet.Trim(line[:1]) == "" {
		return api.Field{}, 0, api.ErrFolded
	}
	name, rest, found := strings.Cut(line, colon)
	if !found {
		return api.Field{}, len(line), api.ErrColon
	}
	if !IsName(name) {
		return api.Field{}, nameFault(name), api.ErrName
	}
	value := octet.Trim(rest)
	if !IsValue(value) {
		return api.Field{}, len(name) + len(colon) + valueFault(rest), api.ErrValue
	}
	return api.Field{Name: name, Value: value}, 0, api.OK
}

// PrintLine is a field as a line without its end.
func PrintLine(f api.Field) (string, api.Errno) {
	if err := check(f); err != api.OK {
		return "", err
	}
	if f.Value == "" {
		return f.Name + colon, api.OK
	}
	return f.Name + colon + " " + f.Value, api.OK
}

// Parse reads lines, each with its end.
func Parse(text string) ([]api.Field, int, api.Errno) {
	var l []api.Field
	for at := 0; at < len(text); {
		line, _, ended := strings.Cut(text[at:], lineEnd)
		if !ended {
			return nil, len(text), api.ErrBreak
		}
		if len(l) == api.MaxFields {
			return nil, at, api.ErrMany
		}
		f, place, err := ParseLine(line)
		if err != api.OK {
			return nil, at + place, err
		}
		l = append(l, f)
		at += len(line) + len(lineEnd)
	}
	return l, 0, api.OK
}

// Print is fields as lines, each with its end.
func Print(l []api.Field) (string, api.Errno) {
	if len(l) > api.MaxFields {
		return "", api.ErrMany
	}
	var b strings.Builder
	for _, f := range l {
		line, err := PrintLine(f)
		if err != api.OK {
			return "", err
		}
		b.WriteString(line)
		b.WriteString(lineEnd)
	}
	return b.String(), api.OK
}

// nameFault is the place of the first byte that keeps a text from being a name; of the empty one 0.
func nameFault(s string) int {
	return min(firstNot(s, octet.IsToken), api.MaxName)
}

// valueFault is the place of what keeps a text with blanks around from being a value: a byte that may not be there counts ahead of one too many.
func valueFault(s string) int {
	if at := firstNot(s, octet.IsField); at < len(s) {
		return at
	}
	return strings.Index(s, octet.Trim(s)) + api.MaxValue
}

// firstNot is the place of the first byte that is not of a kind, the length if there is none.
func firstNot(s string, kind func(string) bool) int {
	for i := range len(s) {
		if !kind(s[i : i+1]) {
			return i
		}
	}
	return len(s)
}
