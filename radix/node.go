package radix

import (
	"cmp"
	"slices"
	"strings"
)

// step is a piece of a way through the tree: a text, which may go along several edges, or a parameter or rest, which has no text, for its name does not count.
type step struct {
	kind int
	text string
}

// node is a place of the tree: the pattern that ends there, if one does, and the edges from there on, by their ranks.
type node[V any] struct {
	kept  *entry[V]
	edges []edge[V]
}

// edge is a step that goes to a node.
type edge[V any] struct {
	step
	end *node[V]
}

// steps is the way of a pattern from the root on.
func steps(pattern string) []step {
	var way []step
	from, at := len(slash), len(slash)
	for _, piece := range pieces(pattern) {
		end := at + len(piece)
		if kind := kindOf(piece); kind != static {
			way = append(withText(way, pattern[from:at]), step{kind: kind})
			from = end
		}
		at = end + len(slash)
	}
	return withText(way, pattern[from:])
}

func withText(way []step, text string) []step {
	if text == "" {
		return way
	}
	return append(way, step{kind: static, text: text})
}

// past is a way without the first n bytes of its first step, and without that step if it has no more.
func past(way []step, n int) []step {
	left := way[0].text[n:]
	if left == "" {
		return way[1:]
	}
	return append([]step{{kind: static, text: left}}, way[1:]...)
}

// rank is the place of a step among those that go on from one node: those that share a rank share an edge there. Gone through by their ranks, edges lead to patterns in the order in which these come first: where a slash follows, a piece ends, and is less than those that go on.
func (s step) rank() int {
	const behindBytes = 1 << 8
	switch {
	case s.kind != static:
		return behindBytes + s.kind
	case s.text[:1] == slash:
		return 0
	}
	return int(s.text[0])
}

// follow is what is left of a path behind a step, if the path goes that way.
func (s step) follow(path string) (string, bool) {
	switch s.kind {
	case static:
		return strings.CutPrefix(path, s.text)
	case parameter:
		value := segment(path)
		return path[len(value):], value != ""
	}
	return "", true
}

// shared is how many bytes two texts have in common at their beginnings.
func shared(a, b string) int {
	n := 0
	for n < len(a) && n < len(b) && a[n] == b[n] {
		n++
	}
	return n
}

// place is the number of the edge that a step shares, or the one that it would have.
func (n *node[V]) place(s step) (int, bool) {
	return slices.BinarySearchFunc(n.edges, s.rank(), func(x edge[V], rank int) int {
		return cmp.Compare(x.rank(), rank)
	})
}

// along is the edge that a way goes along, all of it, from a node on; -1 if there is none.
func (n *node[V]) along(way []step) int {
	i, found := n.place(way[0])
	if !found || !strings.HasPrefix(way[0].text, n.edges[i].text) {
		return -1
	}
	return i
}

// insert keeps an entry at the end of a way. If there is one already, every edge up to it stood there, so nothing was split when it is found.
func (n *node[V]) insert(way []step, e *entry[V]) {
	if len(way) == 0 {
		if n.kept != nil {
			panic(refusal{})
		}
		n.kept = e
		return
	}
	i, found := n.place(way[0])
	if !found {
		n.edges = slices.Insert(n.edges, i, edge[V]{step: way[0], end: new(node[V])})
	}
	x := &n.edges[i]
	x.split(shared(x.text, way[0].text))
	x.end.insert(past(way, len(x.text)), e)
}

// remove lets go what is kept with just this pattern at the end of a way; nothing is changed ahead of that being found.
func (n *node[V]) remove(way []step, pattern string) V {
	if len(way) == 0 {
		if n.kept == nil || n.kept.pattern != pattern {
			panic(refusal{})
		}
		v := n.kept.value
		n.kept = nil
		return v
	}
	i := n.along(way)
	if i < 0 {
		panic(refusal{})
	}
	x := &n.edges[i]
	v := x.end.remove(past(way, len(x.text)), pattern)
	if x.end.kept == nil && len(x.end.edges) == 0 {
		n.edges = slices.Delete(n.edges, i, i+1)
	} else {
		x.join()
	}
	return v
}

// get is what is kept at the end of a way.
func (n *node[V]) get(way []step) *entry[V] {
	if len(way) == 0 {
		return n.kept
	}
	i := n.along(way)
	if i < 0 {
		return nil
	}
	return n.edges[i].end.get(past(way, len(n.edges[i].text)))
}

// find is what is kept with the first of the patterns from this node on that fit what is left of a path. As a parameter takes one segment, whatever it is, a node is come to at most once.
func (n *node[V]) find(path string) *entry[V] {
	if path == "" && n.kept != nil {
		return n.kept
	}
	for _, x := range n.edges {
		left, ok := x.follow(path)
		if !ok {
			continue
		}
		if e := x.end.find(left); e != nil {
			return e
		}
	}
	return nil
}

// gather lays all that is kept from this node on behind a list, in its order.
func (n *node[V]) gather(l []*entry[V]) []*entry[V] {
	if n.kept != nil {
		l = append(l, n.kept)
	}
	for _, x := range n.edges {
		l = x.end.gather(l)
	}
	return l
}

// count is how many nodes there are from this one on.
func (n *node[V]) count() int {
	sum := 1
	for _, x := range n.edges {
		sum += x.end.count()
	}
	return sum
}

// split puts a node behind the first n bytes of an edge, if that is not its end.
func (x *edge[V]) split(n int) {
	if n == len(x.text) {
		return
	}
	behind := edge[V]{step: step{kind: static, text: x.text[n:]}, end: x.end}
	x.text, x.end = x.text[:n], &node[V]{edges: []edge[V]{behind}}
}

// join takes out the node at the end of an edge, if nothing asks for one there any more.
func (x *edge[V]) join() {
	n := x.end
	if x.kind != static || n.kept != nil || len(n.edges) != 1 || n.edges[0].kind != static {
		return
	}
	x.text, x.end = x.text+n.edges[0].text, n.edges[0].end
}
