package tag_test

import (
	"regexp"
	"slices"
	"strings"

	"turnpike/api"
)

// The words of the chapter as patterns over bytes that stand for runes of the same number, apart from the program's own.
const (
	inner   = `[!#-~\x{80}-\x{ff}]{0,256}`
	one     = `(?:W/)?"` + inner + `"`
	partial = `W/?|(?:W/)?"` + inner
)

var (
	wholeTag  = regexp.MustCompile(`\A(W/)?"(` + inner + `)"\z`)
	oneTag    = regexp.MustCompile(`(W/)?"(` + inner + `)"`)
	tagFront  = longest(`\A(?:` + one + `|` + partial + `)?`)
	wholeList = regexp.MustCompile(`\A[ \t]*(?:,[ \t]*)*` + one + `[ \t]*(?:,[ \t]*(?:` + one + `[ \t]*)?)*\z`)
	listFront = longest(`\A[ \t]*(?:(?:` + one + `[ \t]*)?,[ \t]*)*(?:` + one + `[ \t]*|` + partial + `)?`)
)

func longest(pattern string) *regexp.Regexp {
	p := regexp.MustCompile(pattern)
	p.Longest()
	return p
}

// texts goes over all texts of at most so many pieces, each of them out of the list.
func texts(pieces []string, most int) func(yield func(string) bool) {
	return func(yield func(string) bool) {
		for l := range lists(pieces, most) {
			if !yield(strings.Join(l, "")) {
				return
			}
		}
	}
}

// lists goes over all lists of at most so many elements, each of them out of one list.
func lists[T any](elements []T, most int) func(yield func([]T) bool) {
	return func(yield func([]T) bool) {
		level := [][]T{nil}
		for n := 0; ; n++ {
			for _, l := range level {
				if !yield(slices.Clone(l)) {
					return
				}
			}
			if n == most {
				return
			}
			var next [][]T
			for _, l := range level {
				for _, e := range elements {
					next = append(next, append(slices.Clip(l), e))
				}
			}
			level = next
		}
	}
}

// runes is a text in which each byte is the rune of its number, and back is the text of it.
func runes(s string) string {
	var b strings.Builder
	for _, c := range []byte(s) {
		b.WriteRune(rune(c))
	}
	return b.String()
}

func back(s string) string {
	var b []byte
	for _, r := range s {
		b = append(b, byte(r))
	}
	return string(b)
}

// reach is how many bytes of a text the pattern takes.
func reach(p *regexp.Regexp, s string) int { return len([]rune(p.FindString(runes(s)))) }

func modelParse(s string) (api.Tag, int, api.Errno) {
	found := wholeTag.FindStringSubmatch(runes(s))
	if found == nil {
		return api.Tag{}, reach(tagFront, s), api.ErrTag
	}
	return api.Tag{Weak: found[1] != "", Text: back(found[2])}, 0, api.OK
}

func modelList(s string) ([]api.Tag, bool, int, api.Errno) {
	left := strings.TrimLeft(s, " \t")
	bare := strings.TrimRight(left, " \t")
	if bare == "*" {
		return nil, true, 0, api.OK
	}
	if !wholeList.MatchString(runes(bare)) {
		n := reach(listFront, bare)
		if n == len(bare) {
			return nil, false, len(s), api.ErrTags
		}
		return nil, false, len(s) - len(left) + n, api.ErrTags
	}
	var l []api.Tag
	for _, found := range oneTag.FindAllStringSubmatch(runes(bare), -1) {
		l = append(l, api.Tag{Weak: found[1] != "", Text: back(found[2])})
	}
	return l, false, 0, api.OK
}

// values is the values of the fields of a name, in whatever case.
func values(l []api.Field, name string) []string {
	var out []string
	for _, f := range l {
		if strings.EqualFold(f.Name, name) {
			out = append(out, f.Value)
		}
	}
	return out
}

// modelDate is the moment of the one field of that name; of the few dates that the tests know.
func modelDate(l []api.Field, name string) (int, bool) {
	all := values(l, name)
	if len(all) != 1 {
		return 0, false
	}
	switch all[0] {
	case dateBefore:
		return moment - 1, true
	case dateOf, dateLong, datePlain:
		return moment, true
	case dateAfter:
		return moment + 1, true
	}
	return 0, false
}

// modelDecide is 8.4, sentence by sentence.
func modelDecide(method string, l []api.Field, s api.State) int {
	safe := map[string]bool{"GET": true, "HEAD": true}[method]
	if match := values(l, "If-Match"); len(match) > 0 {
		tags, star, _, err := modelList(strings.Join(match, ", "))
		if star {
			if !s.There {
				return 412
			}
		} else {
			found := false
			for _, t := range tags {
				found = found || !t.Weak && t == s.Tag
			}
			if !s.There || !s.Tagged || err != 0 || !found {
				return 412
			}
		}
	} else if date, ok := modelDate(l, "If-Unmodified-Since"); ok && s.There && s.Timed && s.Time > date {
		return 412
	}
	if none := values(l, "If-None-Match"); len(none) > 0 {
		tags, star, _, err := modelList(strings.Join(none, ", "))
		found := star && s.There
		for _, t := range tags {
			found = found || err == 0 && s.There && s.Tagged && t.Text == s.Tag.Text
		}
		if found && safe {
			return 304
		}
		if found {
			return 412
		}
	} else if date, ok := modelDate(l, "If-Modified-Since"); ok && safe && s.There && s.Timed && s.Time <= date {
		return 304
	}
	return 0
}

// modelRanged is 8.5, sentence by sentence.
func modelRanged(l []api.Field, s api.State) bool {
	all := values(l, "If-Range")
	if len(all) == 0 {
		return true
	}
	if len(all) >= 2 || !s.There {
		return false
	}
	if t, _, err := modelParse(strings.Trim(all[0], " \t")); err == 0 {
		return s.Tagged && !t.Weak && t == s.Tag
	}
	date, ok := modelDate(l, "If-Range")
	return ok && s.Timed && s.Time == date
}
