package radix_test

import (
	"regexp"
	"slices"
	"strings"

	"turnpike/api"
)

// The words of the chapters 5 and 13 as patterns over texts.
const (
	sign      = `(?:[A-Za-z0-9\-._~!$&'()*+,;=:@]|%[0-9A-Fa-f]{2})`
	firstSign = `(?:[A-Za-z0-9\-._~!$&'()+,;=@]|%[0-9A-Fa-f]{2})`
	fixed     = `(?:` + firstSign + sign + `*)?`
	name      = `[A-Za-z][A-Za-z0-9_]*`
)

var (
	patternText = regexp.MustCompile(`\A(?:/(?:` + fixed + `|:` + name + `))*/(?:` + fixed + `|[:*]` + name + `)\z`)
	pathText    = regexp.MustCompile(`\A/(?:` + sign + `|/)*\z`)
	namedPiece  = regexp.MustCompile(`/[:*]([^/]*)`)
	paramPiece  = regexp.MustCompile(`/:[^/]*`)
	restPiece   = regexp.MustCompile(`/\*[^/]*`)
)

// namesOf is the names in what may be a pattern.
func namesOf(s string) []string {
	var l []string
	for _, m := range namedPiece.FindAllStringSubmatch(s, -1) {
		l = append(l, m[1])
	}
	return l
}

// patternOfAnyLength is the chapter's word without its limit.
func patternOfAnyLength(s string) bool {
	names := namesOf(s)
	slices.Sort(names)
	return patternText.MatchString(s) && len(slices.Compact(names)) == len(namesOf(s))
}

func modelPattern(s string) bool { return len(s) <= 1024 && patternOfAnyLength(s) }

// beginsPattern looks for a pattern that goes on as the text begins. (No text of the tests has a Z in it.)
func beginsPattern(s string) bool {
	return slices.ContainsFunc([]string{"", "/", "0", "00", "ZZ"}, func(end string) bool { return patternOfAnyLength(s + end) })
}

// modelCheck is 13.1 by the chapter's words: it asks of each beginning whether it is one of a pattern.
func modelCheck(s string) (int, api.Errno) {
	if modelPattern(s) {
		return 0, api.OK
	}
	for n := range min(len(s), 1024) {
		if !beginsPattern(s[:n+1]) {
			return n, api.ErrPattern
		}
	}
	return min(len(s), 1024), api.ErrPattern
}

// orderKey is a text by which patterns are ordered byte by byte as the chapter orders them; those that are alike have the same.
func orderKey(pattern string) string {
	var b strings.Builder
	for _, piece := range strings.Split(pattern[1:], "/") {
		switch {
		case strings.HasPrefix(piece, ":"):
			piece = "\x02"
		case strings.HasPrefix(piece, "*"):
			piece = "\x03"
		default:
			piece = "\x01" + piece
		}
		b.WriteString(piece + "\x00")
	}
	return b.String()
}

// expressions is those that were made ahead, under their patterns.
var expressions = map[string]*regexp.Regexp{}

// expressionOf is one for all paths that a pattern fits, with its values in brackets.
func expressionOf(pattern string) *regexp.Regexp {
	if x := expressions[pattern]; x != nil {
		return x
	}
	expression := ""
	for _, piece := range strings.Split(pattern[1:], "/") {
		switch {
		case strings.HasPrefix(piece, ":"):
			expression += `/([^/]+)`
		case strings.HasPrefix(piece, "*"):
			expression += `/(.*)`
		default:
			expression += `/` + regexp.QuoteMeta(piece)
		}
	}
	expressions[pattern] = regexp.MustCompile(`\A` + expression + `\z`)
	return expressions[pattern]
}

// modelFits is 13.3 by an expression that is made of the pattern.
func modelFits(pattern, path string) ([]api.Param, bool) {
	if !modelPattern(pattern) || !pathText.MatchString(path) {
		return nil, false
	}
	m := expressionOf(pattern).FindStringSubmatch(path)
	if m == nil {
		return nil, false
	}
	var l []api.Param
	for i, name := range namesOf(pattern) {
		l = append(l, api.Param{Name: name, Value: m[i+1], Has: true})
	}
	return l, true
}

// modelTree keeps patterns in a flat list.
type modelTree struct{ patterns, values []string }

func (m *modelTree) alike(pattern string) int {
	return slices.IndexFunc(m.patterns, func(p string) bool { return orderKey(p) == orderKey(pattern) })
}

func (m *modelTree) insert(pattern, v string) api.Errno {
	if !modelPattern(pattern) {
		return api.ErrPattern
	}
	if m.alike(pattern) >= 0 {
		return api.ErrTwice
	}
	m.patterns, m.values = append(m.patterns, pattern), append(m.values, v)
	return api.OK
}

func (m *modelTree) get(pattern string) (string, bool) {
	i := slices.Index(m.patterns, pattern)
	if i < 0 {
		return "", false
	}
	return m.values[i], true
}

func (m *modelTree) remove(pattern string) (string, bool) {
	v, ok := m.get(pattern)
	if i := slices.Index(m.patterns, pattern); ok {
		m.patterns, m.values = slices.Delete(m.patterns, i, i+1), slices.Delete(m.values, i, i+1)
	}
	return v, ok
}

// all is the patterns in their order.
func (m *modelTree) all() []string {
	var keyed [][2]string
	for _, p := range m.patterns {
		keyed = append(keyed, [2]string{orderKey(p), p})
	}
	slices.SortFunc(keyed, func(a, b [2]string) int { return strings.Compare(a[0], b[0]) })
	var l []string
	for _, k := range keyed {
		l = append(l, k[1])
	}
	return l
}

// find is T7: it goes through the flat list of all patterns by their order.
func (m *modelTree) find(path string) (string, string, []api.Param, bool) {
	for _, p := range m.all() {
		if l, ok := modelFits(p, path); ok {
			v, _ := m.get(p)
			return v, p, l, true
		}
	}
	return "", "", nil, false
}

// nodes is 13.7 by the chapter's words: it asks of every beginning of every pattern whether a node stands behind it. A parameter is the one byte 1 there, a rest the byte 2.
func (m *modelTree) nodes() int {
	asked := map[string]bool{"/": true}
	next := map[string]string{}
	for _, p := range m.patterns {
		p = restPiece.ReplaceAllString(paramPiece.ReplaceAllString(p, "/\x01"), "/\x02")
		asked[p] = true
		for n := 1; n < len(p); n++ {
			if strings.Contains("\x01\x02", p[n:n+1]) {
				asked[p[:n]], asked[p[:n+1]] = true, true
			}
			if !strings.Contains(next[p[:n]], p[n:n+1]) {
				next[p[:n]] += p[n : n+1]
			}
		}
	}
	for p, bytes := range next {
		if len(bytes) > 1 {
			asked[p] = true
		}
	}
	return len(asked)
}

// wilds is how many parameters and rests there are in all.
func (m *modelTree) wilds() int {
	n := 0
	for _, p := range m.patterns {
		n += len(namesOf(p))
	}
	return n
}

// lists goes over all lists of up to so many of some elements.
func lists[T any](elements []T, most int) func(yield func([]T) bool) {
	return func(yield func([]T) bool) {
		level := [][]T{nil}
		for n := 0; ; n++ {
			for _, l := range level {
				if !yield(slices.Clone(l)) {
					return
				}
			}
			if n == most {
				return
			}
			var next [][]T
			for _, l := range level {
				for _, e := range elements {
					next = append(next, append(slices.Clip(l), e))
				}
			}
			level = next
		}
	}
}

// texts goes over all texts of up to so many of some pieces.
func texts(pieces []string, most int) func(yield func(string) bool) {
	return func(yield func(string) bool) {
		for l := range lists(pieces, most) {
			if !yield(strings.Join(l, "")) {
				return
			}
		}
	}
}

// orders goes over all orders of a list.
func orders[T any](l []T) func(yield func([]T) bool) {
	return func(yield func([]T) bool) {
		if len(l) == 0 {
			yield(nil)
			return
		}
		for i := range l {
			for behind := range orders(slices.Delete(slices.Clone(l), i, i+1)) {
				if !yield(append([]T{l[i]}, behind...)) {
					return
				}
			}
		}
	}
}

// everyByte is all bytes, each as a text.
func everyByte() []string {
	var l []string
	for c := range 256 {
		l = append(l, string([]byte{byte(c)}))
	}
	return l
}
