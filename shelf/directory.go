package shelf

import (
	"cmp"
	"slices"
	"strings"

	"turnpike/api"
)

// Entries is the entries of a directory.
func (s *Shelf) Entries(path string) ([]string, bool) {
	if !s.isDirectory(path) {
		return nil, false
	}
	var l []string
	for _, f := range s.files {
		if behind, under := strings.CutPrefix(f.Path, path); under {
			l = append(l, entryOf(behind))
		}
	}
	slices.SortFunc(l, func(a, b string) int { return cmp.Compare(a, b) })
	return slices.Compact(l), true
}

func (s *Shelf) isDirectory(path string) bool {
	return strings.HasSuffix(path, slash) && slices.ContainsFunc(s.orEmpty().files, func(f api.File) bool {
		return strings.HasPrefix(f.Path, path)
	})
}

// entryOf is what stands up to the first slash, and with it.
func entryOf(behind string) string {
	entry, _, more := strings.Cut(behind, slash)
	if more {
		return entry + slash
	}
	return entry
}
