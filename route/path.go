package route

import (
	"slices"
	"strings"

	"turnpike/api"
	"turnpike/radix"
)

// fill is a pattern with values in the places of its names.
func fill(pattern string, values []api.Param) (string, api.Errno) {
	pieces := strings.Split(pattern, slash)
	for i, piece := range pieces {
		value, ok := valueOf(piece, values)
		if !ok {
			return "", api.ErrValues
		}
		pieces[i] = value
	}
	return strings.Join(pieces, slash), api.OK
}

// valueOf is by what a piece is told, if there is such a thing and it may be.
func valueOf(piece string, values []api.Param) (string, bool) {
	if !strings.HasPrefix(piece, ":") && !strings.HasPrefix(piece, "*") {
		return piece, true
	}
	name := piece[1:]
	i := slices.IndexFunc(values, func(p api.Param) bool { return p.Name == name })
	if i < 0 {
		return "", false
	}
	value := values[i].Value
	// The piece alone is a pattern, and what may be its value is just what that takes alone.
	_, fits := radix.Fits(slash+piece, slash+value)
	return value, fits
}
