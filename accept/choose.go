package accept

import (
	"slices"
	"strings"

	"turnpike/api"
	"turnpike/octet"
)

const (
	identity = "identity"
	// leastLiked is how much identity is liked where nothing is said of it: it is taken where nothing is liked more.
	leastLiked = 1
	// mostOfLanguage is how many bytes a part of a language has at most.
	mostOfLanguage = 8
)

// narrowness is whether a range has a subtype, whether it has a type, and how many parameters: of two, the first number that is unlike tells which is greater.
type narrowness [3]int

// choice is offers, told by their places alone: whatever they are, they are chosen among alike.
type choice struct {
	offers int
	liking func(at int) int
}

// Liking is how much a media type is liked.
func Liking(l []api.Range, m api.Media) int {
	if len(l) == 0 {
		return whole
	}
	var met []api.Range
	var most narrowness
	for _, r := range l {
		if Meets(r.Media, m) {
			met = append(met, r)
			most = greater(most, narrownessOf(r.Media))
		}
	}
	for _, r := range met {
		if narrownessOf(r.Media) == most {
			return r.Quality
		}
	}
	return 0
}

// Choose is the place of the media type that is liked most, -1: none is.
func Choose(l []api.Range, offers []api.Media) int {
	return choice{len(offers), func(at int) int { return Liking(l, offers[at]) }}.best()
}

// ChooseCoding is the place of the coding that is liked most, -1: none is.
func ChooseCoding(l []api.Weight, given bool, offers []string) int {
	return choice{len(offers), func(at int) int {
		if !given {
			return whole
		}
		return likingOfCoding(l, offers[at])
	}}.best()
}

// ChooseLanguage is the place of the language that is liked most, -1: none is.
func ChooseLanguage(l []api.Weight, offers []string) int {
	return choice{len(offers), func(at int) int {
		if len(l) == 0 {
			return whole
		}
		return likingOfLanguage(l, offers[at])
	}}.best()
}

// best is the place of the first offer that is liked most; -1, if none is liked.
func (c choice) best() int {
	best, most := -1, 0
	for at := range c.offers {
		if q := c.liking(at); q > most {
			best, most = at, q
		}
	}
	return best
}

func narrownessOf(r api.Media) narrowness {
	return narrowness{named(r.Sub), named(r.Type), len(r.Params)}
}

// named is 1, if a part of a range is one alone.
func named(part string) int {
	if part == anything {
		return 0
	}
	return 1
}

func greater(a, b narrowness) narrowness {
	if slices.Compare(a[:], b[:]) < 0 {
		return b
	}
	return a
}

func likingOfCoding(l []api.Weight, coding string) int {
	for _, name := range []string{coding, anything} {
		if q, has := qualityOf(l, name); has {
			return q
		}
	}
	if octet.Same(coding, identity) {
		return leastLiked
	}
	return 0
}

func likingOfLanguage(l []api.Weight, language string) int {
	if !isLanguage(language) {
		return 0
	}
	longest, q := "", 0
	for _, w := range l {
		if len(w.Name) > len(longest) && isFrontOf(w.Name, language) {
			longest, q = w.Name, w.Quality
		}
	}
	if longest != "" {
		return q
	}
	q, _ = qualityOf(l, anything)
	return q
}

// qualityOf is the quality of the first word that is a name.
func qualityOf(l []api.Weight, name string) (int, bool) {
	for _, w := range l {
		if octet.Same(w.Name, name) {
			return w.Quality, true
		}
	}
	return 0, false
}

// isFrontOf tells whether a word is a language, or what stands ahead of some - in it.
func isFrontOf(word, language string) bool {
	n := len(word)
	if n > len(language) || !octet.Same(word, language[:n]) {
		return false
	}
	return n == len(language) || language[n] == '-'
}

func isLanguage(s string) bool {
	for i, part := range strings.Split(s, "-") {
		if part == "" || len(part) > mostOfLanguage || !isPartOfLanguage(part, i > 0) {
			return false
		}
	}
	return true
}

// isPartOfLanguage tells whether all bytes are letters, or digits where these may stand.
func isPartOfLanguage(s string, digits bool) bool {
	for _, c := range []byte(octet.Lower(s)) {
		isDigit := '0' <= c && c <= '9'
		if !('a' <= c && c <= 'z' || digits && isDigit) {
			return false
		}
	}
	return true
}
