package route_test

import (
	"iter"
	"regexp"
	"slices"
	"strings"

	"turnpike/api"
	"turnpike/radix"
)

// The words of the chapters 5, 11 and 13 as patterns over texts.
const sign = `(?:[A-Za-z0-9\-._~!$&'()*+,;=:@]|%[0-9A-Fa-f]{2})`

var (
	methodText = regexp.MustCompile("\\A[!#$%&'*+\\-.^_`|~0-9A-Za-z]{1,24}\\z")
	pathText   = regexp.MustCompile(`\A/(?:` + sign + `|/)*\z`)
	paramValue = regexp.MustCompile(`\A` + sign + `+\z`)
	restValue  = regexp.MustCompile(`\A(?:` + sign + `|/)*\z`)
	namedPiece = regexp.MustCompile(`/[:*][^/]*`)
)

// model is the routes as they were handed in, in a flat list.
type model struct {
	routes []api.Route
	slash  bool
}

func alike(a, b string) bool {
	order, err := radix.Compare(a, b)
	return err == api.OK && order == 0
}

func share(a, b []string) bool {
	return slices.ContainsFunc(a, func(m string) bool { return slices.Contains(b, m) })
}

// modelNew is 14.1 by its words: it holds each route against all ahead of it.
func modelNew(l []api.Route) (int, api.Errno) {
	if len(l) > 256 {
		return 256, api.ErrRoutes
	}
	for i, r := range l {
		if err := modelRoute(l[:i], r); err != api.OK {
			return i, err
		}
	}
	return 0, api.OK
}

func modelRoute(ahead []api.Route, r api.Route) api.Errno {
	if _, err := radix.Check(r.Pattern); err != api.OK {
		return api.ErrPattern
	}
	for i, m := range r.Methods {
		if !methodText.MatchString(m) || slices.Contains(r.Methods[:i], m) {
			return api.ErrMethods
		}
	}
	for _, a := range ahead {
		if alike(a.Pattern, r.Pattern) && a.Pattern != r.Pattern {
			return api.ErrNames
		}
	}
	for _, a := range ahead {
		if a.Pattern == r.Pattern && (share(a.Methods, r.Methods) || len(a.Methods)+len(r.Methods) == 0) {
			return api.ErrTwice
		}
	}
	return api.OK
}

// of is the numbers of the routes of a path, and their pattern.
func (m model) of(path string) ([]int, string) {
	first := ""
	for _, r := range m.routes {
		if _, ok := radix.Fits(r.Pattern, path); !ok {
			continue
		}
		if order, _ := radix.Compare(r.Pattern, first); first == "" || order < 0 {
			first = r.Pattern
		}
	}
	var l []int
	for i, r := range m.routes {
		if r.Pattern == first {
			l = append(l, i)
		}
	}
	return l, first
}

// methods is those of some routes.
func (m model) methods(numbers []int) []string {
	l := []string{"OPTIONS"}
	for _, i := range numbers {
		l = append(l, m.routes[i].Methods...)
	}
	if slices.Contains(l, "GET") {
		l = append(l, "HEAD")
	}
	slices.Sort(l)
	return slices.Compact(l)
}

func (m model) allow(path string) []string {
	numbers, _ := m.of(path)
	if len(numbers) == 0 {
		return nil
	}
	return m.methods(numbers)
}

func (m model) all() []string {
	var numbers []int
	for i := range m.routes {
		numbers = append(numbers, i)
	}
	return m.methods(numbers)
}

// choose is the first of some routes that is like this, -1 if none is.
func (m model) choose(numbers []int, like func(methods []string) bool) int {
	for _, i := range numbers {
		if like(m.routes[i].Methods) {
			return i
		}
	}
	return -1
}

// chosen is the route of MatchFound, -1 if there is none.
func (m model) chosen(numbers []int, method string) int {
	i := m.choose(numbers, func(l []string) bool { return slices.Contains(l, method) })
	if i < 0 && method == "HEAD" {
		i = m.choose(numbers, func(l []string) bool { return slices.Contains(l, "GET") })
	}
	if i < 0 {
		i = m.choose(numbers, func(l []string) bool { return len(l) == 0 })
	}
	return i
}

// match is 14.2 by its words.
func (m model) match(method, path string) api.Match {
	none := api.Match{Kind: api.MatchNone, Route: -1}
	if !pathText.MatchString(path) {
		return none
	}
	numbers, pattern := m.of(path)
	if len(numbers) == 0 {
		to := path + "/"
		if strings.HasSuffix(path, "/") {
			to = path[:len(path)-1]
		}
		if others, _ := m.of(to); m.slash && to != "" && len(others) > 0 {
			return api.Match{Kind: api.MatchSlash, Route: -1, To: to}
		}
		return none
	}
	params, _ := radix.Fits(pattern, path)
	if i := m.chosen(numbers, method); i >= 0 {
		return api.Match{Kind: api.MatchFound, Route: i, Pattern: pattern, Params: params}
	}
	kind := api.MatchMethod
	if method == "OPTIONS" {
		kind = api.MatchOptions
	}
	return api.Match{Kind: kind, Route: -1, Pattern: pattern, Params: params, Allow: m.methods(numbers)}
}

// nodes is those of a tree of these patterns.
func (m model) nodes() int {
	x := radix.New[int]()
	for _, r := range m.routes {
		x.Insert(r.Pattern, 0)
	}
	return x.Nodes()
}

// path is 14.4 by its words.
func (m model) path(route int, values []api.Param) (string, api.Errno) {
	if route < 0 || route >= len(m.routes) {
		return "", api.ErrRoutes
	}
	wrong := false
	s := namedPiece.ReplaceAllStringFunc(m.routes[route].Pattern, func(piece string) string {
		may := paramValue
		if piece[1] == '*' {
			may = restValue
		}
		i := slices.IndexFunc(values, func(p api.Param) bool { return p.Name == piece[2:] })
		if i < 0 || !may.MatchString(values[i].Value) {
			wrong = true
			return ""
		}
		return "/" + values[i].Value
	})
	if wrong {
		return "", api.ErrValues
	}
	return s, api.OK
}

// same holds two matches against each other; a list that is empty is one that is not there.
func same(a, b api.Match) bool {
	return a.Kind == b.Kind && a.Route == b.Route && a.Pattern == b.Pattern && a.To == b.To &&
		slices.Equal(a.Params, b.Params) && slices.Equal(a.Allow, b.Allow)
}

// lists goes over all lists of up to so many of some elements.
func lists[T any](elements []T, most int) iter.Seq[[]T] {
	return func(yield func([]T) bool) {
		level := [][]T{nil}
		for n := 0; ; n++ {
			for _, l := range level {
				if !yield(slices.Clone(l)) {
					return
				}
			}
			if n == most {
				return
			}
			var next [][]T
			for _, l := range level {
				for _, e := range elements {
					next = append(next, append(slices.Clip(l), e))
				}
			}
			level = next
		}
	}
}

// texts is all texts of up to so many of some pieces.
func texts(pieces []string, most int) []string {
	var all []string
	for l := range lists(pieces, most) {
		all = append(all, strings.Join(l, ""))
	}
	return all
}

// orders goes over all orders of a list.
func orders[T any](l []T) iter.Seq[[]T] {
	return func(yield func([]T) bool) {
		if len(l) == 0 {
			yield(nil)
			return
		}
		for i := range l {
			for behind := range orders(slices.Delete(slices.Clone(l), i, i+1)) {
				if !yield(append([]T{l[i]}, behind...)) {
					return
				}
			}
		}
	}
}
