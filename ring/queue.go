package ring

import (
	"iter"

	"turnpike/api"
)

// Queue is elements that wait, at most so many. Its places are gone round like
// a ring's. They are filled one behind the other the first time round, so the
// store grows only as far as elements came: an element may be of any size.
type Queue[T any] struct {
	store    []T
	capacity int
	head     int
	count    int
}

// NewQueue makes a queue in which so many elements may wait (P2.6).
func NewQueue[T any](capacity int) (*Queue[T], api.Errno) {
	if capacity < 1 || capacity > api.MaxQueue {
		return nil, api.ErrCapacity
	}
	return &Queue[T]{capacity: capacity}, api.OK
}

// Cap is how many elements may wait (P2.6).
func (q *Queue[T]) Cap() int {
	if q == nil {
		return 0
	}
	return q.capacity
}

// Len is how many elements wait (P2.6).
func (q *Queue[T]) Len() int {
	if q == nil {
		return 0
	}
	return q.count
}

// Push lays v behind the others (P2.6).
func (q *Queue[T]) Push(v T) api.Errno {
	if q.Len() == q.Cap() {
		return api.ErrFull
	}
	place := q.place(q.count)
	if place == len(q.store) {
		q.store = append(q.store, v)
	} else {
		q.store[place] = v
	}
	q.count++
	return api.OK
}

// Pop is the first element, which waits no more (P2.6).
func (q *Queue[T]) Pop() (T, api.Errno) {
	v, ok := q.First()
	if !ok {
		return v, api.ErrEmpty
	}
	// The place lets go of the element, or what it points to would be kept.
	var none T
	q.store[q.head] = none
	q.head = q.place(1)
	q.count--
	return v, api.OK
}

// First is the first element (P2.6).
func (q *Queue[T]) First() (T, bool) { return q.At(0) }

// At is the element with the number i (P2.6).
func (q *Queue[T]) At(i int) (T, bool) {
	if i < 0 || i >= q.Len() {
		var none T
		return none, false
	}
	return q.store[q.place(i)], true
}

// All goes over the elements that wait now, with their numbers (P2.6).
func (q *Queue[T]) All() iter.Seq2[int, T] {
	waiting := q.list()
	return func(yield func(int, T) bool) {
		for i, v := range waiting {
			if !yield(i, v) {
				return
			}
		}
	}
}

// Clear lets all elements go, and the store with them (P2.6).
func (q *Queue[T]) Clear() {
	if q == nil {
		return
	}
	q.store, q.head, q.count = nil, 0, 0
}

// list is a copy of the elements that wait.
func (q *Queue[T]) list() []T {
	if q.Len() == 0 {
		return nil
	}
	out := make([]T, q.count)
	laid := copy(out, q.store[q.head:])
	copy(out[laid:], q.store)
	return out
}

// place is where the element with the number i stands; i is at most the
// capacity.
func (q *Queue[T]) place(i int) int {
	i += q.head
	if i >= q.capacity {
		i -= q.capacity
	}
	return i
}
