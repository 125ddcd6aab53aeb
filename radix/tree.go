package radix

import (
	"iter"

	"turnpike/api"
)

// Tree is a tree of patterns.
type Tree[V any] struct {
	root node[V] // stands for the slash with which every pattern begins
}

// entry is a pattern that is kept, and what is kept with it.
type entry[V any] struct {
	pattern string
	value   V
}

// refusal is what a node gives up with: the pattern that it is to keep has its like there already, or the one that it is to let go is not there.
type refusal struct{}

// refused tells whether a node gave up. What else a panic tells is not this layer's to hide.
func refused(given any) bool {
	_, ours := given.(refusal)
	if given != nil && !ours {
		panic(given)
	}
	return ours
}

// New is a tree of no patterns.
func New[V any]() *Tree[V] { return new(Tree[V]) }

// Insert keeps a pattern.
func (t *Tree[V]) Insert(pattern string, v V) (err api.Errno) {
	switch {
	case !isPattern(pattern):
		return api.ErrPattern
	case t == nil:
		return api.ErrTwice
	}
	defer func() {
		if refused(recover()) {
			err = api.ErrTwice
		}
	}()
	t.root.insert(steps(pattern), &entry[V]{pattern: pattern, value: v})
	return api.OK
}

// Remove keeps a pattern no more.
func (t *Tree[V]) Remove(pattern string) (v V, ok bool) {
	if t == nil || !isPattern(pattern) {
		return v, false
	}
	defer func() { ok = !refused(recover()) }()
	return t.root.remove(steps(pattern), pattern), true
}

// Get is what is kept with a pattern.
func (t *Tree[V]) Get(pattern string) (V, bool) {
	var none V
	if t == nil || !isPattern(pattern) {
		return none, false
	}
	e := t.root.get(steps(pattern))
	if e == nil || e.pattern != pattern {
		return none, false
	}
	return e.value, true
}

// Find is the pattern that a path belongs to.
func (t *Tree[V]) Find(path string) (V, string, []api.Param, bool) {
	var none V
	if t == nil || !isPath(path) {
		return none, "", nil, false
	}
	e := t.root.find(path[len(slash):])
	if e == nil {
		return none, "", nil, false
	}
	l, ok := values(e.pattern, path)
	return e.value, e.pattern, l, ok
}

// All is all patterns that are kept, in their order.
func (t *Tree[V]) All() iter.Seq2[string, V] {
	kept := t.entries()
	return func(yield func(string, V) bool) {
		for _, e := range kept {
			if !yield(e.pattern, e.value) {
				return
			}
		}
	}
}

// Len is how many patterns are kept.
func (t *Tree[V]) Len() int { return len(t.entries()) }

// Nodes is how many nodes there are.
func (t *Tree[V]) Nodes() int {
	if t == nil {
		return 0
	}
	return t.root.count()
}

func (t *Tree[V]) entries() []*entry[V] {
	if t == nil {
		return nil
	}
	return t.root.gather(nil)
}
