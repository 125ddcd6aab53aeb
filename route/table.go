package route

import (
	"maps"
	"strings"

	"turnpike/api"
	"turnpike/parse"
	"turnpike/radix"
	"turnpike/target"
)

const (
	slash   = "/"
	noRoute = -1
)

// table is the tree of the patterns, each with the routes that have it.
type table struct {
	*radix.Tree[group]
	patterns []string // of all routes, by their numbers
	slash    bool
}

// add keeps a route behind those that are kept. A table that refuses one is not to be asked any more: its pattern may be kept already, and some of its methods.
func (t *table) add(r api.Route) api.Errno {
	if _, err := radix.Check(r.Pattern); err != api.OK {
		return err
	}
	if !areMethods(r.Methods) {
		return api.ErrMethods
	}
	g, known := t.Get(r.Pattern)
	if !known {
		g = group{}
		// It is a pattern, and not kept: what stands in its way differs from it by names alone.
		if t.Insert(r.Pattern, g) != api.OK {
			return api.ErrNames
		}
	}
	if !g.take(len(t.patterns), r.Methods) {
		return api.ErrTwice
	}
	t.patterns = append(t.patterns, r.Pattern)
	return api.OK
}

// areMethods tells whether all are methods, and none stands there twice.
func areMethods(l []string) bool {
	seen := map[string]struct{}{}
	for _, method := range l {
		if !parse.IsMethod(method) {
			return false
		}
		seen[method] = struct{}{}
	}
	return len(seen) == len(l)
}

func nowhere() api.Match { return api.Match{Kind: api.MatchNone, Route: noRoute} }

func (t *table) match(method, path string) api.Match {
	g, pattern, params, ok := t.Find(path)
	if !ok {
		return t.matchOther(path)
	}
	if number, taken := g.find(method); taken {
		return api.Match{Kind: api.MatchFound, Route: number, Pattern: pattern, Params: params}
	}
	kind := api.MatchMethod
	if method == options {
		kind = api.MatchOptions
	}
	return api.Match{Kind: kind, Route: noRoute, Pattern: pattern, Params: params, Allow: g.methods()}
}

// matchOther is of a path that has no routes. Whether it is a path is asked here, for what is none may become one by a slash: the empty text does.
func (t *table) matchOther(path string) api.Match {
	other := otherPath(path)
	if !t.slash || !isPath(path) || !t.fits(other) {
		return nowhere()
	}
	return api.Match{Kind: api.MatchSlash, Route: noRoute, To: other}
}

// otherPath is the empty text, to which nothing is ever found, where a path has no other one.
func otherPath(path string) string {
	if shorter, ends := strings.CutSuffix(path, slash); ends {
		return shorter
	}
	return path + slash
}

func isPath(s string) bool {
	_, err := target.Normal(s)
	return err == api.OK
}

// fits tells whether a path has routes.
func (t *table) fits(path string) bool {
	_, _, _, ok := t.Find(path)
	return ok
}

func (t *table) allow(path string) []string {
	g, _, _, ok := t.Find(path)
	if !ok {
		return nil
	}
	return g.methods()
}

// every is all routes as one group, whatever their patterns: good for its methods, not for the numbers behind them.
func (t *table) every() group {
	sum := group{}
	for _, g := range t.All() {
		maps.Copy(sum, g)
	}
	return sum
}
