package ring_test

import (
	"math"
	"runtime"
	"slices"
	"testing"
	"time"

	"turnpike/api"
	"turnpike/ring"
)

func newQueue[T any](t *testing.T, capacity int) *ring.Queue[T] {
	t.Helper()
	q, err := ring.NewQueue[T](capacity)
	if q == nil || err != api.OK {
		t.Fatalf("NewQueue(%d): %v, %d", capacity, q, err)
	}
	return q
}

// gone is the elements that All goes over; it stops at numbers that are not the next ones.
func gone[T any](t *testing.T, q *ring.Queue[T]) []T {
	t.Helper()
	var out []T
	for i, v := range q.All() {
		if i != len(out) {
			t.Fatalf("All: number %d behind %d elements", i, len(out))
		}
		out = append(out, v)
	}
	return out
}

// holds says whether just those elements wait, by all calls that look at them.
func holds[T comparable](t *testing.T, q *ring.Queue[T], capacity int, want []T) {
	t.Helper()
	if q.Cap() != capacity || q.Len() != len(want) {
		t.Fatalf("Cap %d, Len %d; wanted %d, %d", q.Cap(), q.Len(), capacity, len(want))
	}
	if got := gone(t, q); !slices.Equal(got, want) {
		t.Fatalf("All: %v, not %v", got, want)
	}
	var none T
	for i := -1; i <= len(want); i++ {
		v, ok := q.At(i)
		if there := i >= 0 && i < len(want); ok != there || there && v != want[i] || !there && v != none {
			t.Fatalf("At(%d) of %v: %v, %t", i, want, v, ok)
		}
	}
	v, ok := q.First()
	if ok != (len(want) > 0) || ok && v != want[0] || !ok && v != none {
		t.Fatalf("First of %v: %v, %t", want, v, ok)
	}
}

// 2.6
func TestNewQueue(t *testing.T) {
	for _, capacity := range []int{math.MinInt, -1, 0, 65537, math.MaxInt} {
		if q, err := ring.NewQueue[string](capacity); q != nil || err != api.ErrCapacity {
			t.Errorf("NewQueue(%d): %v, %d", capacity, q, err)
		}
	}
	for _, capacity := range []int{1, 2, 1000, 65535, 65536} {
		q := newQueue[int](t, capacity)
		holds(t, q, capacity, nil)
		for i := range capacity {
			if err := q.Push(i); err != api.OK {
				t.Fatalf("Push %d of %d: %d", i, capacity, err)
			}
		}
		if err := q.Push(-1); err != api.ErrFull || q.Len() != capacity {
			t.Errorf("Push past %d: %d, %d", capacity, err, q.Len())
		}
		for i := range capacity {
			if v, err := q.Pop(); v != i || err != api.OK {
				t.Fatalf("Pop %d of %d: %d, %d", i, capacity, v, err)
			}
		}
	}
}

// Example 3.
func TestQueueExample(t *testing.T) {
	q := newQueue[int](t, 2)
	if a, b, c := q.Push(7), q.Push(8), q.Push(9); a != api.OK || b != api.OK || c != api.ErrFull {
		t.Error("Push", a, b, c)
	}
	if v, err := q.Pop(); v != 7 || err != api.OK {
		t.Error("Pop", v, err)
	}
	if err := q.Push(9); err != api.OK {
		t.Error("Push(9)", err)
	}
	holds(t, q, 2, []int{8, 9})
	for _, want := range []int{8, 9} {
		if v, err := q.Pop(); v != want || err != api.OK {
			t.Error("Pop", v, err)
		}
	}
	if v, err := q.Pop(); v != 0 || err != api.ErrEmpty {
		t.Error("Pop of nothing", v, err)
	}
}

// 2.6: every row of a few calls, on small queues.
func TestEveryRowOfQueueCalls(t *testing.T) {
	const calls = 9
	rows := 1
	for range calls {
		rows *= 3
	}
	for capacity := 1; capacity <= 4; capacity++ {
		for row := range rows {
			q := newQueue[string](t, capacity)
			var waits []string
			for call := range calls {
				switch v := string(rune('a' + call)); row % 3 {
				case 0, 1:
					want := api.ErrFull
					if len(waits) < capacity {
						want, waits = api.OK, append(waits, v)
					}
					if err := q.Push(v); err != want {
						t.Fatalf("Push behind %q of %d: %d", waits, capacity, err)
					}
				case 2:
					first, want := "", api.ErrEmpty
					if len(waits) > 0 {
						first, want, waits = waits[0], api.OK, waits[1:]
					}
					if got, err := q.Pop(); got != first || err != want {
						t.Fatalf("Pop ahead of %q: %q, %d", waits, got, err)
					}
				}
				if row%3 == 1 && call == calls/2 {
					q.Clear()
					waits = nil
				}
				holds(t, q, capacity, waits)
				row /= 3
			}
		}
	}
}

// 2.6
func TestQueueAt(t *testing.T) {
	q := newQueue[int](t, 3)
	for _, v := range []int{1, 2, 3} {
		q.Push(v)
	}
	q.Pop()
	q.Push(4)
	for _, i := range []int{math.MinInt, -1, 3, 4, math.MaxInt} {
		if v, ok := q.At(i); v != 0 || ok {
			t.Errorf("At(%d): %d, %t", i, v, ok)
		}
	}
	holds(t, q, 3, []int{2, 3, 4})
}

// 2.6
func TestQueueClear(t *testing.T) {
	q := newQueue[int](t, 3)
	q.Clear()
	for _, v := range []int{1, 2, 3} {
		q.Push(v)
	}
	q.Pop()
	q.Push(4)
	q.Clear()
	holds(t, q, 3, nil)
	if v, err := q.Pop(); v != 0 || err != api.ErrEmpty {
		t.Error("Pop behind Clear", v, err)
	}
	for _, v := range []int{5, 6, 7} {
		if err := q.Push(v); err != api.OK {
			t.Error("Push behind Clear", err)
		}
	}
	holds(t, q, 3, []int{5, 6, 7})
	if err := q.Push(8); err != api.ErrFull {
		t.Error("Push behind Clear into a full queue", err)
	}
}

// 2.6: All is left, gone over again, nested.
func TestAllAgain(t *testing.T) {
	q := newQueue[int](t, 3)
	for _, v := range []int{0, 1, 2} {
		q.Push(v)
	}
	q.Pop()
	q.Push(3)
	all := q.All()
	for range 2 {
		for i, v := range all {
			if i != 0 || v != 1 {
				t.Errorf("All goes on behind a break: %d %d", i, v)
			}
			break
		}
	}
	var pairs []int
	for i, v := range all {
		for j, w := range all {
			pairs = append(pairs, i*1000+v*100+j*10+w)
		}
	}
	if want := []int{101, 112, 123, 1201, 1212, 1223, 2301, 2312, 2323}; !slices.Equal(pairs, want) {
		t.Errorf("All nested: %v", pairs)
	}
	holds(t, q, 3, []int{1, 2, 3})
}

// 2.6: what is done to the queue behind All has no part.
func TestAllIsOfItsMoment(t *testing.T) {
	q := newQueue[int](t, 2)
	nothing := q.All()
	q.Push(1)
	q.Push(2)
	all := q.All()
	q.Pop()
	q.Push(3)
	for i, v := range nothing {
		t.Errorf("All of an empty queue: %d %d", i, v)
	}
	var got []int
	for i, v := range all {
		got = append(got, i, v)
		q.Clear()
		q.Push(9)
		q.Push(9)
	}
	if !slices.Equal(got, []int{0, 1, 1, 2}) {
		t.Errorf("All: %v", got)
	}
	holds(t, q, 2, []int{9, 9})
	got = nil
	for i, v := range all {
		got = append(got, i, v)
	}
	if !slices.Equal(got, []int{0, 1, 1, 2}) {
		t.Errorf("All again: %v", got)
	}
}

// 2.7
func TestNilQueue(t *testing.T) {
	var q *ring.Queue[string]
	if q.Cap() != 0 || q.Len() != 0 {
		t.Error("Cap, Len", q.Cap(), q.Len())
	}
	if err := q.Push("a"); err != api.ErrFull {
		t.Error("Push", err)
	}
	if v, err := q.Pop(); v != "" || err != api.ErrEmpty {
		t.Error("Pop", v, err)
	}
	if v, ok := q.First(); v != "" || ok {
		t.Error("First", v, ok)
	}
	for _, i := range []int{-1, 0, 1} {
		if v, ok := q.At(i); v != "" || ok {
			t.Error("At", i, v, ok)
		}
	}
	for i, v := range q.All() {
		t.Error("All", i, v)
	}
	q.Clear()
}

// A queue that no call gave has no places, and does not panic.
func TestZeroQueue(t *testing.T) {
	var q ring.Queue[int]
	if err := q.Push(1); err != api.ErrFull {
		t.Error("Push", err)
	}
	if _, err := q.Pop(); err != api.ErrEmpty {
		t.Error("Pop", err)
	}
	q.Clear()
	holds(t, &q, 0, nil)
}

// 2.10
func TestQueuesKnowNothingOfOneAnother(t *testing.T) {
	a, b := newQueue[int](t, 2), newQueue[int](t, 2)
	a.Push(1)
	a.Push(2)
	b.Push(3)
	a.Pop()
	holds(t, a, 2, []int{2})
	holds(t, b, 2, []int{3})
	b.Clear()
	holds(t, a, 2, []int{2})
}

// 2.6: elements of any type, and of any size.
func TestQueueOfAnyType(t *testing.T) {
	type pair struct {
		a string
		b [2]int
	}
	structs := newQueue[pair](t, 1)
	structs.Push(pair{"x", [2]int{1, 2}})
	holds(t, structs, 1, []pair{{"x", [2]int{1, 2}}})

	empty := newQueue[struct{}](t, 65536)
	empty.Push(struct{}{})
	holds(t, empty, 65536, []struct{}{{}})

	functions := newQueue[func() int](t, 2)
	functions.Push(func() int { return 5 })
	if f, err := functions.Pop(); err != api.OK || f() != 5 {
		t.Error("Pop of a function", err)
	}
	if f, err := functions.Pop(); err != api.ErrEmpty || f != nil {
		t.Error("Pop of no function", err)
	}

	great := newQueue[[1 << 20]byte](t, 65536)
	great.Push([1 << 20]byte{7: 1})
	if v, ok := great.First(); v[7] != 1 || !ok {
		t.Error("First of great ones", ok)
	}
}

// comes says whether a value that nothing holds is found so, within many rounds of collecting.
func comes(freed chan bool) bool {
	for range 200 {
		runtime.GC()
		select {
		case <-freed:
			return true
		case <-time.After(10 * time.Millisecond):
		}
	}
	return false
}

// What waits no more is not kept.
func TestQueueLetsGo(t *testing.T) {
	for name, leave := range map[string]func(q *ring.Queue[*[64]int]){
		"Pop":   func(q *ring.Queue[*[64]int]) { q.Pop() },
		"Clear": func(q *ring.Queue[*[64]int]) { q.Clear() },
	} {
		q := newQueue[*[64]int](t, 4)
		freed := make(chan bool, 1)
		func() {
			v := new([64]int)
			runtime.SetFinalizer(v, func(*[64]int) { freed <- true })
			q.Push(v)
		}()
		leave(q)
		if !comes(freed) {
			t.Errorf("%s keeps the element", name)
		}
		runtime.KeepAlive(q)
	}
}
