// Package accept is layer 7: see shared/doc/07-accept.md.
package accept

import (
	"slices"
	"strings"

	"turnpike/api"
	"turnpike/octet"
)

// anything stands in a range, or among words, for whatever there is.
const anything = "*"

// Parse reads a media type.
func Parse(s string) (api.Media, api.Errno) {
	m, ok := readMedia(octet.Trim(s))
	if !ok || !allValued(m.Params) {
		return api.Media{}, api.ErrMedia
	}
	return m, api.OK
}

// Print is a media type as text.
func Print(m api.Media) (string, api.Errno) {
	if !isSmallToken(m.Type) || !isSmallToken(m.Sub) || !allValued(m.Params) || !allSmall(m.Params) {
		return "", api.ErrMedia
	}
	params, err := octet.Print(m.Params)
	if err != api.OK {
		return "", api.ErrMedia
	}
	return m.Type + "/" + m.Sub + params, api.OK
}

// Meets tells whether a media type is met by a range.
func Meets(r api.Media, m api.Media) bool {
	return partMeets(r.Type, m.Type) && partMeets(r.Sub, m.Sub) && paramsMeet(r.Params, m.Params)
}

// readMedia reads a media type or a range, whose parameters may yet be without values.
func readMedia(s string) (api.Media, bool) {
	head, params, ok := cutParams(s)
	kind, sub, _ := strings.Cut(head, "/")
	if !ok || !octet.IsToken(kind) || !octet.IsToken(sub) {
		return api.Media{}, false
	}
	return api.Media{Type: octet.Lower(kind), Sub: octet.Lower(sub), Params: params}, true
}

// cutParams is what stands ahead of the parameters, and these, names with small letters; false: they do not go on to the end.
func cutParams(s string) (string, []api.Param, bool) {
	at := strings.IndexAny(s, "; \t")
	if at < 0 {
		return s, nil, true
	}
	params, n, err := octet.Params(s[at:])
	if err != api.OK || at+n != len(s) {
		return "", nil, false
	}
	for i := range params {
		params[i].Name = octet.Lower(params[i].Name)
	}
	return s[:at], params, true
}

func isSmall(s string) bool { return octet.Lower(s) == s }

func isSmallToken(s string) bool { return octet.IsToken(s) && isSmall(s) }

func allSmall(l []api.Param) bool {
	return !slices.ContainsFunc(l, func(p api.Param) bool { return !isSmall(p.Name) })
}

func allValued(l []api.Param) bool {
	return !slices.ContainsFunc(l, func(p api.Param) bool { return !p.Has })
}

// partMeets tells of a type, or of a subtype, whether that of a range meets it.
func partMeets(ofRange, part string) bool { return ofRange == anything || octet.Same(ofRange, part) }

// paramsMeet tells whether each parameter of a range is one of a media type's.
func paramsMeet(ofRange, params []api.Param) bool {
	for _, p := range ofRange {
		if !slices.ContainsFunc(params, alikeTo(p)) {
			return false
		}
	}
	return true
}

func alikeTo(p api.Param) func(api.Param) bool {
	return func(other api.Param) bool { return octet.Same(p.Name, other.Name) && p.Value == other.Value }
}
