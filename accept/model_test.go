package accept_test

import (
	"regexp"
	"slices"
	"strings"

	"turnpike/api"
)

// The words of the chapter as patterns over bytes that stand for runes of the same number, apart from the program's own.
const (
	signs  = "[A-Za-z0-9!#$%&'*+.^_`|~-]+"
	quoted = `"(?:\\[\t -~\x{80}-\x{ff}]|[\t !#-\[\]-~\x{80}-\x{ff}])*"`
	param  = `[ \t]*;[ \t]*(?:(` + signs + `)(?:(=)(` + signs + `|` + quoted + `))?)?`
)

var (
	wholeMedia    = regexp.MustCompile(`\A(` + signs + `)/(` + signs + `)((?:` + param + `)*)\z`)
	wholeWord     = regexp.MustCompile(`\A(` + signs + `)((?:` + param + `)*)\z`)
	oneParam      = regexp.MustCompile(param)
	wholeQuality  = regexp.MustCompile(`\A(?:0(?:\.[0-9]{0,3})?|1(?:\.0{0,3})?)\z`)
	wholeLanguage = regexp.MustCompile(`\A[A-Za-z]{1,8}(?:-[A-Za-z0-9]{1,8})*\z`)
	wholeList     = regexp.MustCompile(`\A(?s:[^"]|` + quoted + `)*\z`)
	listPart      = regexp.MustCompile(`(?s:[^",]|` + quoted + `)+`)
	twoBytes      = regexp.MustCompile(`(?s)\\(.)`)
)

// texts goes over all texts of at most so many pieces, each of them out of the list.
func texts(pieces []string, most int) func(yield func(string) bool) {
	return func(yield func(string) bool) {
		for l := range lists(pieces, most) {
			if !yield(strings.Join(l, "")) {
				return
			}
		}
	}
}

// lists goes over all lists of at most so many elements, each of them out of one list.
func lists[T any](elements []T, most int) func(yield func([]T) bool) {
	return func(yield func([]T) bool) {
		level := [][]T{nil}
		for n := 0; ; n++ {
			for _, l := range level {
				if !yield(slices.Clone(l)) {
					return
				}
			}
			if n == most {
				return
			}
			var next [][]T
			for _, l := range level {
				for _, e := range elements {
					next = append(next, append(slices.Clip(l), e))
				}
			}
			level = next
		}
	}
}

// runes is a text in which each byte is the rune of its number, and back is the text of it.
func runes(s string) string {
	var b strings.Builder
	for _, c := range []byte(s) {
		b.WriteRune(rune(c))
	}
	return b.String()
}

func back(s string) string {
	var b []byte
	for _, r := range s {
		b = append(b, byte(r))
	}
	return string(b)
}

func small(s string) string {
	b := []byte(s)
	for i, c := range b {
		if strings.IndexByte("ABCDEFGHIJKLMNOPQRSTUVWXYZ", c) >= 0 {
			b[i] = c + 32
		}
	}
	return string(b)
}

func same(a, b string) bool { return small(a) == small(b) }

// modelParams is the parameters of a text of runes that has nothing else.
func modelParams(s string) []api.Param {
	var l []api.Param
	for _, found := range oneParam.FindAllStringSubmatch(s, -1) {
		if found[1] == "" {
			continue
		}
		value := found[3]
		if strings.HasPrefix(value, `"`) {
			value = twoBytes.ReplaceAllString(value[1:len(value)-1], "$1")
		}
		l = append(l, api.Param{Name: small(found[1]), Value: back(value), Has: found[2] == "="})
	}
	return l
}

func modelMedia(s string) (api.Media, bool) {
	found := wholeMedia.FindStringSubmatch(runes(s))
	if found == nil {
		return api.Media{}, false
	}
	return api.Media{Type: small(found[1]), Sub: small(found[2]), Params: modelParams(found[3])}, true
}

func modelParse(s string) (api.Media, api.Errno) {
	m, ok := modelMedia(strings.Trim(s, " \t"))
	for _, p := range m.Params {
		ok = ok && p.Has
	}
	if !ok {
		return api.Media{}, api.ErrMedia
	}
	return m, api.OK
}

func modelQuality(s string) (int, api.Errno) {
	if !wholeQuality.MatchString(s) {
		return 0, api.ErrQuality
	}
	q := 0
	for _, c := range (strings.Replace(s, ".", "", 1) + "000")[:4] {
		q = 10*q + int(c-'0')
	}
	return q, api.OK
}

// modelWeight is the parameters ahead of the first q, and what that says.
func modelWeight(l []api.Param) ([]api.Param, int, api.Errno) {
	for i, p := range l {
		if p.Name != "q" {
			continue
		}
		if !p.Has {
			return l[:i], 0, api.ErrQuality
		}
		q, err := modelQuality(p.Value)
		return l[:i], q, err
	}
	return l, 1000, api.OK
}

// modelElements is the elements of a list.
func modelElements(s string) ([]string, bool) {
	if !wholeList.MatchString(runes(s)) {
		return nil, false
	}
	var out []string
	for _, part := range listPart.FindAllString(runes(s), -1) {
		if part = strings.Trim(part, " \t"); part != "" {
			out = append(out, back(part))
		}
	}
	return out, true
}

func modelRanges(s string) ([]api.Range, api.Errno) {
	elements, ok := modelElements(s)
	if !ok {
		return nil, api.ErrList
	}
	var out []api.Range
	for _, e := range elements {
		m, ok := modelMedia(e)
		own, q, err := modelWeight(m.Params)
		for _, p := range own {
			ok = ok && p.Has
		}
		if !ok || m.Type == "*" && m.Sub != "*" {
			return nil, api.ErrRange
		}
		if err != api.OK {
			return nil, err
		}
		out = append(out, api.Range{Media: api.Media{Type: m.Type, Sub: m.Sub, Params: own}, Quality: q})
	}
	return out, api.OK
}

func modelWeights(s string) ([]api.Weight, api.Errno) {
	elements, ok := modelElements(s)
	if !ok {
		return nil, api.ErrList
	}
	var out []api.Weight
	for _, e := range elements {
		found := wholeWord.FindStringSubmatch(runes(e))
		if found == nil {
			return nil, api.ErrToken
		}
		_, q, err := modelWeight(modelParams(found[2]))
		if err != api.OK {
			return nil, err
		}
		out = append(out, api.Weight{Name: small(found[1]), Quality: q})
	}
	return out, api.OK
}

func modelMeets(r, m api.Media) bool {
	for _, p := range r.Params {
		if !slices.ContainsFunc(m.Params, func(o api.Param) bool { return same(o.Name, p.Name) && o.Value == p.Value }) {
			return false
		}
	}
	return (r.Type == "*" || same(r.Type, m.Type)) && (r.Sub == "*" || same(r.Sub, m.Sub))
}

// modelNarrower tells whether a is narrower than b, by the words of the chapter, one by one.
func modelNarrower(a, b api.Media) bool {
	if (a.Sub == "*") != (b.Sub == "*") {
		return b.Sub == "*"
	}
	if (a.Type == "*") != (b.Type == "*") {
		return b.Type == "*"
	}
	return len(a.Params) > len(b.Params)
}

func modelLiking(l []api.Range, m api.Media) int {
	if len(l) == 0 {
		return 1000
	}
	meets := func(r api.Range) bool { return modelMeets(r.Media, m) }
	for _, r := range l {
		widerThanOne := slices.ContainsFunc(l, func(o api.Range) bool { return meets(o) && modelNarrower(o.Media, r.Media) })
		if meets(r) && !widerThanOne {
			return r.Quality
		}
	}
	return 0
}

// modelBest is the first place of the greatest number; -1, if none is above 0.
func modelBest(likings []int) int {
	if len(likings) == 0 || slices.Max(likings) <= 0 {
		return -1
	}
	return slices.Index(likings, slices.Max(likings))
}

func modelChoose(l []api.Range, offers []api.Media) int {
	var likings []int
	for _, m := range offers {
		likings = append(likings, modelLiking(l, m))
	}
	return modelBest(likings)
}

// modelWord is the quality of the first word that is said yes to.
func modelWord(l []api.Weight, says func(string) bool) (int, bool) {
	at := slices.IndexFunc(l, func(w api.Weight) bool { return says(w.Name) })
	if at < 0 {
		return 0, false
	}
	return l[at].Quality, true
}

func isStar(word string) bool { return word == "*" }

func modelCoding(l []api.Weight, given bool, coding string) int {
	if !given {
		return 1000
	}
	if q, has := modelWord(l, func(word string) bool { return same(word, coding) }); has {
		return q
	}
	if q, has := modelWord(l, isStar); has {
		return q
	}
	if same(coding, "identity") {
		return 1
	}
	return 0
}

func modelChooseCoding(l []api.Weight, given bool, offers []string) int {
	var likings []int
	for _, coding := range offers {
		likings = append(likings, modelCoding(l, given, coding))
	}
	return modelBest(likings)
}

func modelLanguage(l []api.Weight, language string) int {
	if len(l) == 0 {
		return 1000
	}
	if !wholeLanguage.MatchString(language) {
		return 0
	}
	// The parts of the language are left one by one, so that the first word found is the longest.
	for parts := strings.Split(language, "-"); len(parts) > 0; parts = parts[:len(parts)-1] {
		if q, has := modelWord(l, func(word string) bool { return same(word, strings.Join(parts, "-")) }); has {
			return q
		}
	}
	q, _ := modelWord(l, isStar)
	return q
}

func modelChooseLanguage(l []api.Weight, offers []string) int {
	var likings []int
	for _, language := range offers {
		likings = append(likings, modelLanguage(l, language))
	}
	return modelBest(likings)
}
