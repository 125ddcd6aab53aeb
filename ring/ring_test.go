package ring_test

import (
	"bytes"
	"math"
	"math/rand"
	"slices"
	"strings"
	"testing"

	"turnpike/api"
	"turnpike/ring"
)

func newRing(t *testing.T, capacity int) *ring.Ring {
	t.Helper()
	r, err := ring.New(capacity)
	if r == nil || err != api.OK {
		t.Fatalf("New(%d): %v, %d", capacity, r, err)
	}
	return r
}

// standing is a ring of that capacity whose head is the place head, in which text waits.
func standing(t *testing.T, capacity, head int, text string) *ring.Ring {
	t.Helper()
	r := newRing(t, capacity)
	for range head {
		r.Put([]byte{'#'})
		r.Drop(1)
	}
	if err := r.PutAll([]byte(text)); err != api.OK || r.Head() != head {
		t.Fatalf("a ring of %d with %q from %d on: %d, %d", capacity, text, head, err, r.Head())
	}
	return r
}

// list is the plain model of a ring: the bytes that wait, and how many went since the last Clear.
type list struct {
	capacity int
	waits    []byte
	gone     int
}

func (l *list) put(p []byte) int {
	n := min(len(p), l.capacity-len(l.waits))
	l.waits = append(slices.Clone(l.waits), p[:n]...)
	return n
}

func (l *list) drop(n int) int {
	n = max(min(n, len(l.waits)), 0)
	l.waits = l.waits[n:]
	l.gone += n
	return n
}

func (l *list) peek(from, n int) []byte {
	var out []byte
	for i := 0; i < len(l.waits); i++ {
		if from >= 0 && i >= from && len(out) < n {
			out = append(out, l.waits[i])
		}
	}
	return out
}

func (l *list) find(p []byte, from int) int {
	for i := from; i >= 0 && i+len(p) <= len(l.waits); i++ {
		if bytes.Equal(l.waits[i:i+len(p)], p) {
			return i
		}
	}
	return -1
}

// same holds all that a ring tells against the model, and what P2.8 and P2.9 say of it.
func same(t *testing.T, r *ring.Ring, l *list) {
	t.Helper()
	n := len(l.waits)
	if r.Cap() != l.capacity || r.Len() != n || r.Free() != l.capacity-n || r.Head() != l.gone%l.capacity {
		t.Fatalf("Cap %d, Len %d, Free %d, Head %d; wanted %+v", r.Cap(), r.Len(), r.Free(), r.Head(), *l)
	}
	first, second := r.Parts()
	turn := min(n, l.capacity-r.Head())
	if !bytes.Equal(first, l.waits[:turn]) || !bytes.Equal(second, l.waits[turn:]) {
		t.Fatalf("Parts: %q, %q; wanted %q from %d on", first, second, l.waits, r.Head())
	}
	if all := r.Peek(0, r.Len()); !bytes.Equal(all, slices.Concat(first, second)) {
		t.Fatalf("Peek(0, %d): %q, but Parts %q, %q", r.Len(), all, first, second)
	}
	for i := -1; i <= n; i++ {
		b, ok := r.At(i)
		if i < 0 || i >= n {
			if b != 0 || ok {
				t.Fatalf("At(%d) of %q: %d, %t", i, l.waits, b, ok)
			}
		} else if b != l.waits[i] || !ok {
			t.Fatalf("At(%d) of %q: %q, %t", i, l.waits, b, ok)
		}
	}
}

// 2.1
func TestNew(t *testing.T) {
	for _, capacity := range []int{math.MinInt, -1, 0, 1048577, math.MaxInt} {
		if r, err := ring.New(capacity); r != nil || err != api.ErrCapacity {
			t.Errorf("New(%d): %v, %d", capacity, r, err)
		}
	}
	for _, capacity := range []int{1, 2, 3, 4096, 1048575, 1048576} {
		r := newRing(t, capacity)
		if r.Cap() != capacity || r.Len() != 0 || r.Free() != capacity || r.Head() != 0 {
			t.Errorf("New(%d): %d, %d, %d, %d", capacity, r.Cap(), r.Len(), r.Free(), r.Head())
		}
		if n := r.Put(make([]byte, capacity+1)); n != capacity || r.Len() != capacity || r.Free() != 0 {
			t.Errorf("Put of %d bytes: %d, %d, %d", capacity+1, n, r.Len(), r.Free())
		}
	}
}

// Example 1.
func TestExample(t *testing.T) {
	r := newRing(t, 4)
	if n := r.Put([]byte("abc")); n != 3 {
		t.Error("Put abc", n)
	}
	if got := r.Take(2); string(got) != "ab" || r.Head() != 2 {
		t.Errorf("Take(2): %q, %d", got, r.Head())
	}
	if n := r.Put([]byte("defg")); n != 3 || r.Len() != 4 {
		t.Error("Put defg", n, r.Len())
	}
	if a, b := r.Parts(); string(a) != "cd" || string(b) != "ef" {
		t.Errorf("Parts: %q, %q", a, b)
	}
	if got := r.Peek(1, 2); string(got) != "de" {
		t.Errorf("Peek(1, 2): %q", got)
	}
	if at := r.Find([]byte("ef"), 0); at != 2 {
		t.Error("Find ef", at)
	}
	if b, ok := r.At(3); b != 'f' || !ok {
		t.Error("At(3)", b, ok)
	}
	if b, ok := r.At(4); b != 0 || ok {
		t.Error("At(4)", b, ok)
	}
	if n := r.Put([]byte("x")); n != 0 {
		t.Error("Put x", n)
	}
	if err := r.PutAll([]byte("x")); err != api.ErrFull {
		t.Error("PutAll x", err)
	}
	if n := r.Drop(9); n != 4 || r.Head() != 2 || r.Len() != 0 {
		t.Error("Drop(9)", n, r.Head(), r.Len())
	}
}

// 2.2
func TestPut(t *testing.T) {
	for capacity := 1; capacity <= 5; capacity++ {
		for head := range capacity {
			for waits := 0; waits <= capacity; waits++ {
				for n := 0; n <= capacity+2; n++ {
					ahead, p := "abcde"[:waits], []byte("vwxyzuu"[:n])
					free := capacity - waits
					l := &list{capacity, []byte(ahead), head}

					r := standing(t, capacity, head, ahead)
					if got := r.Put(p); got != min(n, free) || l.put(p) != got {
						t.Errorf("Put(%q) behind %q of %d: %d", p, ahead, capacity, got)
					}
					same(t, r, l)

					r, l = standing(t, capacity, head, ahead), &list{capacity, []byte(ahead), head}
					want := api.OK
					if n > free {
						want = api.ErrFull
					} else {
						l.put(p)
					}
					if err := r.PutAll(p); err != want {
						t.Errorf("PutAll(%q) behind %q of %d: %d", p, ahead, capacity, err)
					}
					same(t, r, l)
				}
			}
		}
	}
	r := standing(t, 2, 1, "ab")
	if r.Put(nil) != 0 || r.PutAll(nil) != api.OK || r.PutAll([]byte{}) != api.OK || string(r.Peek(0, 2)) != "ab" {
		t.Error("no bytes into a full ring")
	}
}

// 2.3
func TestPeek(t *testing.T) {
	odd := []int{math.MinInt, -2, -1, 0, 1, 2, 3, 4, 5, 6, math.MaxInt - 1, math.MaxInt}
	for head := range 4 {
		for waits := 0; waits <= 4; waits++ {
			text := "abcd"[:waits]
			r, l := standing(t, 4, head, text), &list{4, []byte(text), head}
			for _, from := range odd {
				for _, n := range odd {
					if got := r.Peek(from, n); !bytes.Equal(got, l.peek(from, n)) {
						t.Errorf("Peek(%d, %d) of %q: %q", from, n, text, got)
					}
				}
				b, ok := r.At(from)
				if there := from >= 0 && from < waits; ok != there || there && b != text[from] || !there && b != 0 {
					t.Errorf("At(%d) of %q: %q, %t", from, text, b, ok)
				}
			}
			same(t, r, l)
		}
	}
}

// 2.3
func TestParts(t *testing.T) {
	for _, x := range []struct {
		capacity, head int
		text           string
		first, second  string
	}{
		{4, 0, "", "", ""},
		{4, 3, "", "", ""},
		{4, 0, "abcd", "abcd", ""},
		{4, 1, "abc", "abc", ""},
		{4, 1, "abcd", "abc", "d"},
		{4, 3, "a", "a", ""},
		{4, 3, "ab", "a", "b"},
		{4, 3, "abcd", "a", "bcd"},
		{1, 0, "a", "a", ""},
	} {
		if a, b := standing(t, x.capacity, x.head, x.text).Parts(); string(a) != x.first || string(b) != x.second {
			t.Errorf("Parts of %q from %d on in %d: %q, %q", x.text, x.head, x.capacity, a, b)
		}
	}
}

// 2.3
func TestFind(t *testing.T) {
	for head := range 6 {
		for _, text := range []string{"", "a", "b", "ab", "aab", "aaaaaa", "abaaba", "aabaab", "babaab", "bbbbba", "\x00a\x00b", "abbab"} {
			r, l := standing(t, 6, head, text), &list{6, []byte(text), head}
			for _, from := range []int{math.MinInt, -1, 0, 1, 2, 3, 4, 5, 6, 7, math.MaxInt} {
				for _, p := range []string{"", "a", "b", "\x00", "c", "ab", "ba", "aa", "bb", "aab", "aba", "baab", "bbba", "aabaab", "aaaaaa", "abaaba", "abaabab", "aaaaaaaaaaaaaa"} {
					want := -1
					if from <= 7 {
						want = l.find([]byte(p), from)
					}
					if got := r.Find([]byte(p), from); got != want {
						t.Errorf("Find(%q, %d) in %q from %d on: %d, not %d", p, from, text, head, got, want)
					}
				}
			}
			if r.Find(nil, len(text)) != len(text) || r.Find(nil, len(text)+1) != -1 {
				t.Errorf("Find of no bytes in %q", text)
			}
			same(t, r, l)
		}
	}
	r := newRing(t, 3)
	if r.Find(nil, 0) != 0 || r.Find([]byte{}, 1) != -1 || r.Find([]byte("a"), 0) != -1 {
		t.Error("Find in an empty ring")
	}
}

// What is not among the bytes that wait is not found, though it still stands in the store.
func TestFindOnlyWhatWaits(t *testing.T) {
	r := newRing(t, 4)
	r.Put([]byte("abcd"))
	r.Drop(2)
	for p, want := range map[string]int{"ab": -1, "bc": -1, "cda": -1, "da": -1, "cd": 0, "d": 1} {
		if got := r.Find([]byte(p), 0); got != want {
			t.Errorf("Find(%q): %d", p, got)
		}
	}
	r.Clear()
	if at := r.Find([]byte("a"), 0); at != -1 {
		t.Error("Find behind Clear", at)
	}
}

// A great ring is searched through in a time that does not grow with the product of both lengths.
func TestFindInGreatRing(t *testing.T) {
	text := strings.Repeat("a", api.MaxRing)
	r := standing(t, api.MaxRing, 0, text)
	r.Drop(api.MaxRing / 3)
	r.PutAll([]byte(text[:api.MaxRing/3]))
	half := strings.Repeat("a", api.MaxRing/2)
	for p, want := range map[string]int{half: 0, half + "b": -1, "b" + half: -1, text: 0, text + "a": -1} {
		if at := r.Find([]byte(p), 0); at != want {
			t.Errorf("Find of %d bytes: %d", len(p), at)
		}
	}
}

// 2.4
func TestTakeAndDrop(t *testing.T) {
	for head := range 4 {
		for waits := 0; waits <= 4; waits++ {
			for _, n := range []int{math.MinInt, -1, 0, 1, 2, 3, 4, 5, math.MaxInt} {
				text := "abcd"[:waits]
				gone := max(min(n, waits), 0)
				after := &list{4, []byte(text[gone:]), head + gone}
				r := standing(t, 4, head, text)
				if got := r.Take(n); string(got) != text[:gone] {
					t.Errorf("Take(%d) of %q: %q", n, text, got)
				}
				same(t, r, after)
				r = standing(t, 4, head, text)
				if got := r.Drop(n); got != gone {
					t.Errorf("Drop(%d) of %q: %d", n, text, got)
				}
				same(t, r, after)
			}
			r := standing(t, 4, head, "abcd"[:waits])
			r.Clear()
			same(t, r, &list{capacity: 4})
			r.Clear()
			r.Put([]byte("xyzu"))
			same(t, r, &list{capacity: 4, waits: []byte("xyzu")})
		}
	}
}

// 2.5
func TestNilRing(t *testing.T) {
	var r *ring.Ring
	for _, p := range [][]byte{nil, {}, []byte("a"), []byte("ab")} {
		want := api.OK
		if len(p) > 0 {
			want = api.ErrFull
		}
		if n, err := r.Put(p), r.PutAll(p); n != 0 || err != want {
			t.Errorf("Put, PutAll(%q): %d, %d", p, n, err)
		}
	}
	for _, n := range []int{math.MinInt, -1, 0, 1, math.MaxInt} {
		if b, ok := r.At(n); b != 0 || ok {
			t.Errorf("At(%d): %d, %t", n, b, ok)
		}
		if got := r.Take(n); len(got) != 0 {
			t.Errorf("Take(%d): %q", n, got)
		}
		if got := r.Drop(n); got != 0 {
			t.Errorf("Drop(%d): %d", n, got)
		}
		for _, from := range []int{-1, 0, 1} {
			if got := r.Peek(from, n); len(got) != 0 {
				t.Errorf("Peek(%d, %d): %q", from, n, got)
			}
		}
		if a, b := r.Find(nil, n), r.Find([]byte("a"), n); a != -1 || b != -1 {
			t.Errorf("Find from %d on: %d, %d", n, a, b)
		}
	}
	if a, b := r.Parts(); len(a) != 0 || len(b) != 0 {
		t.Errorf("Parts: %q, %q", a, b)
	}
	r.Clear()
	if r.Cap() != 0 || r.Len() != 0 || r.Free() != 0 || r.Head() != 0 {
		t.Error("Cap, Len, Free, Head", r.Cap(), r.Len(), r.Free(), r.Head())
	}
}

// A ring that no call gave has no places, and does not panic.
func TestZeroRing(t *testing.T) {
	var r ring.Ring
	if r.Put([]byte("a")) != 0 || r.PutAll([]byte("a")) != api.ErrFull || r.PutAll(nil) != api.OK {
		t.Error("Put")
	}
	if len(r.Take(1)) != 0 || len(r.Peek(0, 1)) != 0 || r.Drop(1) != 0 || r.Find([]byte("a"), 0) != -1 {
		t.Error("Take")
	}
	if a, b := r.Parts(); len(a) != 0 || len(b) != 0 {
		t.Error("Parts")
	}
	r.Clear()
}

// 2.8, 2.9: every row of a few calls, on small rings.
func TestEveryRowOfCalls(t *testing.T) {
	next := byte(0)
	fresh := func(n int) []byte {
		p := make([]byte, n)
		for i := range p {
			next++
			p[i] = next
		}
		return p
	}
	steps := []func(r *ring.Ring, l *list) bool{
		func(r *ring.Ring, l *list) bool { p := fresh(1); return r.Put(p) == l.put(p) },
		func(r *ring.Ring, l *list) bool { p := fresh(2); return r.Put(p) == l.put(p) },
		func(r *ring.Ring, l *list) bool {
			p := fresh(2)
			if len(p) > l.capacity-len(l.waits) {
				return r.PutAll(p) == api.ErrFull
			}
			l.put(p)
			return r.PutAll(p) == api.OK
		},
		func(r *ring.Ring, l *list) bool {
			want := l.peek(0, 1)
			return bytes.Equal(r.Take(1), want) && l.drop(1) == len(want)
		},
		func(r *ring.Ring, l *list) bool { return r.Drop(2) == l.drop(2) },
		func(r *ring.Ring, l *list) bool { r.Clear(); *l = list{capacity: l.capacity}; return true },
	}
	const calls = 5
	rows := 1
	for range calls {
		rows *= len(steps)
	}
	for capacity := 1; capacity <= 3; capacity++ {
		for row := range rows {
			r, l := newRing(t, capacity), &list{capacity: capacity}
			for range calls {
				if !steps[row%len(steps)](r, l) {
					t.Fatalf("row %d, call %d, in a ring of %d", row, row%len(steps), capacity)
				}
				same(t, r, l)
				row /= len(steps)
			}
		}
	}
}

// 2.8, 2.9: long rows of calls on rings of all sizes; what Take and Drop let go is what was put.
func TestLongRowsOfCalls(t *testing.T) {
	source := rand.New(rand.NewSource(2))
	for row := range 300 {
		capacity := 1 + row%40
		r, l := newRing(t, capacity), &list{capacity: capacity}
		var came, went []byte
		for range 200 {
			n := source.Intn(capacity + 3)
			if source.Intn(2) == 0 {
				p := make([]byte, n)
				source.Read(p)
				got := r.Put(p)
				if got != l.put(p) {
					t.Fatalf("Put of %d bytes: %d", n, got)
				}
				came = append(came, p[:got]...)
			} else {
				went = append(went, r.Take(n)...)
				l.drop(n)
			}
			same(t, r, l)
			from := source.Intn(capacity + 1)
			if p := r.Peek(from, 3); r.Find(p, 0) != l.find(p, 0) || r.Find(p, from) != l.find(p, from) {
				t.Fatalf("Find(%q, %d) in %q", p, from, l.waits)
			}
		}
		if went = append(went, r.Take(capacity)...); !bytes.Equal(came, went) {
			t.Fatalf("%d bytes came, %d other ones went", len(came), len(went))
		}
	}
}

// 2.8: Put in pieces is Put at once.
func TestPutInPieces(t *testing.T) {
	text := []byte("abcdef")
	for head := range 6 {
		for cut := 0; cut <= len(text); cut++ {
			for again := cut; again <= len(text); again++ {
				r := standing(t, 6, head, "")
				if r.Put(text[:cut])+r.Put(text[cut:again])+r.Put(text[again:]) != len(text) {
					t.Errorf("Put in pieces cut at %d, %d", cut, again)
				}
				same(t, r, &list{6, text, head})
			}
		}
	}
}

// 2.10
func TestRingsKnowNothingOfOneAnother(t *testing.T) {
	a, b := newRing(t, 3), newRing(t, 3)
	a.Put([]byte("abc"))
	b.Put([]byte("xy"))
	a.Drop(1)
	b.Take(2)
	a.Put([]byte("d"))
	same(t, a, &list{3, []byte("bcd"), 1})
	same(t, b, &list{3, nil, 2})
	b.Clear()
	same(t, a, &list{3, []byte("bcd"), 1})
}

// soil writes over a list and the spare room behind its end.
func soil(p []byte) {
	p = p[:cap(p)]
	for i := range p {
		p[i] = '!'
	}
}

// 2.10, R4
func TestRingSharesNoMemory(t *testing.T) {
	for head := range 4 {
		room := []byte("abcXYZ")
		r := standing(t, 4, head, "")
		l := &list{4, []byte("abc"), head}
		if r.Put(room[:3]) != 3 || string(room) != "abcXYZ" {
			t.Fatalf("Put changed what it was handed: %q", room)
		}
		soil(room)
		same(t, r, l)

		soil(r.Peek(0, 3))
		soil(r.Peek(1, 1))
		soil(r.Peek(3, 1))
		same(t, r, l)

		first, second := r.Parts()
		before := string(second)
		soil(first)
		if string(second) != before {
			t.Errorf("the lists of Parts share memory: %q", second)
		}
		soil(second)
		same(t, r, l)

		if first, _ = r.Parts(); strings.Contains(string(first), "!") {
			t.Errorf("Parts hands out an answer again: %q", first)
		}

		seek := []byte("bcQ")
		if r.Find(seek[:2], 0) != 1 || string(seek) != "bcQ" {
			t.Errorf("Find changed what it was handed: %q", seek)
		}

		taken := r.Take(2)
		r.PutAll([]byte("xyz"))
		if string(taken) != "ab" {
			t.Errorf("what Take answered is changed by Put: %q", taken)
		}
		soil(taken)
		same(t, r, &list{4, []byte("cxyz"), head + 2})

		seen := r.Peek(0, 4)
		r.Clear()
		r.Put([]byte("1234"))
		if string(seen) != "cxyz" {
			t.Errorf("what Peek answered is changed by Put: %q", seen)
		}
	}
}
