package shelf

import (
	"slices"

	"turnpike/accept"
	"turnpike/api"
	"turnpike/octet"
)

const (
	whole = 1000
	// leastLiked is how much it is liked that nothing is coded, where nothing is said of that.
	leastLiked = 1
)

// taste is what a wish says, read. A list that is empty likes all, but that of codings only if they are not given.
type taste struct {
	media     []api.Range
	codings   []api.Weight
	given     bool
	languages []api.Weight
}

// tasteOf leaves out what is not there, and what is refused.
func tasteOf(w api.Wish) taste {
	var t taste
	t.media, _ = readIf(w.HasAccept, w.Accept, accept.Ranges)
	t.codings, t.given = readIf(w.HasCoding, w.Coding, accept.Weights)
	t.languages, _ = readIf(w.HasLanguage, w.Language, accept.Weights)
	return t
}

// readIf reads a field that is there, and tells whether it counts.
func readIf[T any](has bool, s string, read func(string) ([]T, api.Errno)) ([]T, bool) {
	if !has {
		return nil, false
	}
	l, err := read(s)
	return l, err == api.OK
}

func (t taste) liking(f api.File) int {
	return t.ofMedia(f.Media) * t.ofCoding(f.Coding) * t.ofLanguage(f.Language)
}

func (t taste) ofMedia(media string) int {
	m, _ := accept.Parse(media) // a file's is right
	return accept.Liking(t.media, m)
}

func (t taste) ofCoding(coding string) int {
	if !t.given {
		return whole
	}
	unsaid := 0
	if coding == "" {
		coding, unsaid = identity, leastLiked
	}
	for _, name := range []string{coding, anything} {
		if q, said := qualityOf(t.codings, name); said {
			return q
		}
	}
	return unsaid
}

func (t taste) ofLanguage(language string) int {
	if language == "" || len(t.languages) == 0 {
		return whole
	}
	longest, liking := "", 0
	for _, w := range t.languages {
		if len(w.Name) > len(longest) && isFrontOf(w.Name, language) {
			longest, liking = w.Name, w.Quality
		}
	}
	if longest == "" {
		liking, _ = qualityOf(t.languages, anything)
	}
	return liking
}

// qualityOf is the quality of the first word that is a name.
func qualityOf(l []api.Weight, name string) (int, bool) {
	at := slices.IndexFunc(l, func(w api.Weight) bool { return octet.Same(w.Name, name) })
	if at < 0 {
		return 0, false
	}
	return l[at].Quality, true
}

// isFrontOf tells whether a word is a language, or what stands ahead of some - in it.
func isFrontOf(word, language string) bool {
	n := len(word)
	if n > len(language) || !octet.Same(word, language[:n]) {
		return false
	}
	return n == len(language) || language[n] == '-'
}
