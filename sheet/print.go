package sheet

import (
	"slices"
	"strings"

	"turnpike/api"
	"turnpike/field"
	"turnpike/octet"
)

// Print is parts as a body.
func Print(boundary string, l []api.Part) (string, api.Errno) {
	mark := dashes + boundary
	marked := func(p api.Part) bool { return hasMark(p, mark) }
	switch {
	case !IsBoundary(boundary) || slices.ContainsFunc(l, marked):
		return "", api.ErrBoundary
	case len(l) == 0:
		return "", api.ErrParts
	}
	var b strings.Builder
	for _, p := range l {
		fields, ok := printHead(p)
		if !ok {
			return "", api.ErrPart
		}
		for _, s := range []string{mark, lineEnd, fields, lineEnd, p.Body, lineEnd} {
			b.WriteString(s)
		}
	}
	b.WriteString(mark + dashes + lineEnd)
	return b.String(), api.OK
}

// printHead is the lines of a part's fields; whether there can be such lines.
func printHead(p api.Part) (string, bool) {
	name, err := octet.Quote(p.Name)
	file, fileErr := octet.Quote(p.File)
	if err != api.OK || fileErr != api.OK || !p.HasFile && p.File != "" {
		return "", false
	}
	value := formData + "; " + paramName + "=" + name
	if p.HasFile {
		value += "; " + paramFile + "=" + file
	}
	l := []api.Field{{Name: nameDisposition, Value: value}}
	if p.Media != "" {
		l = append(l, api.Field{Name: nameMedia, Value: p.Media})
	}
	// A value that is too long, or has blanks around it, is refused here.
	s, err := field.Print(l)
	return s, err == api.OK
}
