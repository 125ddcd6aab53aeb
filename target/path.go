package target

import (
	"iter"
	"strings"

	"turnpike/api"
)

// Normal is a path's normal form.
func Normal(path string) (string, api.Errno) {
	if !isPath(path) {
		return "", api.ErrPath
	}
	// A triple may stand for a dot: so the dots come behind the triples.
	return withoutDots(normalTriples(path)), api.OK
}

// Segments is a path's segments.
func Segments(path string) ([]string, api.Errno) {
	if !isPath(path) {
		return nil, api.ErrPath
	}
	var l []string
	for segment := range segmentsOf(path) {
		decoded, _, _ := Decode(segment) // a path's triples are whole
		l = append(l, decoded)
	}
	return l, api.OK
}

// Path is the path of some segments.
func Path(segments []string) string {
	if len(segments) == 0 {
		return "/"
	}
	var b strings.Builder
	for _, segment := range segments {
		b.WriteByte('/')
		b.WriteString(Encode(segment))
	}
	return b.String()
}

// Resolve is where a reference leads to from a path.
func Resolve(path, ref string) (string, api.Errno) {
	if !isPath(path) || !isOf(ref, pathSigns) {
		return "", api.ErrPath
	}
	switch {
	case ref == "":
		return Normal(path)
	case ref[0] == '/':
		return Normal(ref)
	}
	return Normal(path[:strings.LastIndexByte(path, '/')+1] + ref)
}

func isPath(s string) bool { return strings.HasPrefix(s, "/") && isOf(s, pathSigns) }

// segmentsOf goes through a path's segments as they stand.
func segmentsOf(path string) iter.Seq[string] { return pieces(path[1:], "/") }

// normalTriples is a path whose percent triples are in their normal form, which is how Encode writes the byte that one stands for.
func normalTriples(path string) string {
	var b strings.Builder
	for _, sign := range signs(path) {
		if isTriple(sign) {
			sign = Encode(string([]byte{tripleByte(sign)}))
		}
		b.WriteString(sign)
	}
	return b.String()
}

// withoutDots is a path whose dots are taken out.
func withoutDots(path string) string {
	var kept []string
	dots := false
	for segment := range segmentsOf(path) {
		dots = segment == "." || segment == ".."
		switch {
		case !dots:
			kept = append(kept, segment)
		case segment == "..":
			kept = kept[:max(len(kept)-1, 0)]
		}
	}
	if dots {
		kept = append(kept, "")
	}
	return "/" + strings.Join(kept, "/")
}
