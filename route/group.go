package route

import "slices"

// The methods that stand for others, or are answered without a route.
const (
	get     = "GET"
	head    = "HEAD"
	options = "OPTIONS"
)

// all is in a group what stands in a method's place for a route that is for all: it is no method itself.
const all = ""

// group is the routes of one pattern: their numbers by their methods.
type group map[string]int

// take gives a route its methods; false, if a route ahead has one of them.
func (g group) take(number int, methods []string) bool {
	if len(methods) == 0 {
		methods = []string{all}
	}
	for _, method := range methods {
		if _, taken := g[method]; taken {
			return false
		}
		g[method] = number
	}
	return true
}

// find is the route that answers a method.
func (g group) find(method string) (int, bool) {
	for _, wanted := range answering(method) {
		if number, taken := g[wanted]; taken {
			return number, true
		}
	}
	return 0, false
}

// answering is whose routes answer a method, those that are asked first ahead.
func answering(method string) []string {
	if method == head {
		return []string{head, get, all}
	}
	return []string{method, all}
}

// methods is the methods by which something is answered, rising.
func (g group) methods() []string {
	gathered := map[string]struct{}{options: {}}
	for method := range g {
		switch method {
		case all:
			continue
		case get:
			gathered[head] = struct{}{}
		}
		gathered[method] = struct{}{}
	}
	var l []string
	for method := range gathered {
		l = append(l, method)
	}
	slices.Sort(l)
	return l
}
