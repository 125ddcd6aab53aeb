package shelf

import (
	"slices"

	"turnpike/api"
)

const index = "index.html"

// Find is what stands at a path, for a wish.
func (s *Shelf) Find(path string, w api.Wish) api.Found {
	if l := s.Variants(path); len(l) > 0 {
		return s.choose(l, w)
	}
	if s.isDirectory(path) {
		if l := s.Variants(path + index); len(l) > 0 {
			return s.choose(l, w)
		}
		return api.Found{Kind: api.FoundDirectory, Path: path}
	}
	if s.isDirectory(path + slash) {
		return api.Found{Kind: api.FoundSlash, Path: path + slash}
	}
	return api.Found{Kind: api.FoundNone}
}

// choose is of variants, told by their places, the one that is liked most.
func (s *Shelf) choose(variants []int, w api.Wish) api.Found {
	t := tasteOf(w)
	found, most := api.Found{Kind: api.FoundUnliked, Vary: s.vary(variants)}, 0
	for _, at := range variants {
		if liking := t.liking(s.files[at]); liking > most {
			found.Kind, found.File, most = api.FoundFile, at, liking
		}
	}
	return found
}

// vary is the names of the fields that say what is liked of something in which the variants are unlike.
func (s *Shelf) vary(variants []int) []string {
	var l []string
	for _, x := range []struct {
		name string
		part func(api.File) string
	}{
		{"Accept", func(f api.File) string { return f.Media }},
		{"Accept-Encoding", func(f api.File) string { return f.Coding }},
		{"Accept-Language", func(f api.File) string { return f.Language }},
	} {
		first := x.part(s.files[variants[0]])
		if slices.ContainsFunc(variants, func(at int) bool { return x.part(s.files[at]) != first }) {
			l = append(l, x.name)
		}
	}
	return l
}
