package span_test

import (
	"math"
	"slices"
	"strings"
	"testing"

	"turnpike/api"
	"turnpike/span"
)

func checkMerge(t *testing.T, l, want []api.Span) {
	t.Helper()
	if got := span.Merge(l); !slices.Equal(got, want) {
		t.Errorf("Merge(%v): %v; want %v", l, got, want)
	}
}

// 9.3, the example 2.
func TestMergeExamples(t *testing.T) {
	l := of(5, 9, 0, 2, 2, 3, 7, 8)
	checkMerge(t, l, of(0, 3, 5, 9))
	if n := span.Total(l); n != 8 {
		t.Error("Total:", n)
	}
}

// 9.3: spans that touch, that lie in one another, that are none, that have any numbers.
func TestMerge(t *testing.T) {
	for _, c := range []struct{ l, want []api.Span }{
		{nil, nil},
		{of(3, 3), nil},
		{of(4, 3, 0, 0, 9, -9), nil},
		{of(0, 1), of(0, 1)},
		{of(0, 1, 2, 3), of(0, 1, 2, 3)},
		{of(2, 3, 0, 1), of(0, 1, 2, 3)},
		{of(1, 2, 0, 1), of(0, 2)},
		{of(0, 9, 3, 4, 9, 9, 5, 6), of(0, 9)},
		{of(0, 3, 0, 3, 0, 3), of(0, 3)},
		{of(0, 2, 0, 5, 0, 3), of(0, 5)},
		{of(0, 5, 5, 3, 6, 6, 7, 8), of(0, 5, 7, 8)},
		{of(-3, -1, -1, 2, -9, -5), of(-9, -5, -3, 2)},
		{of(math.MinInt, math.MaxInt), of(math.MinInt, math.MaxInt)},
		{of(math.MaxInt-1, math.MaxInt, math.MinInt, math.MinInt+1, 0, 1), of(math.MinInt, math.MinInt+1, 0, 1, math.MaxInt-1, math.MaxInt)},
		{of(math.MinInt, 0, 0, math.MaxInt, 5, 6), of(math.MinInt, math.MaxInt)},
		{of(math.MaxInt, math.MinInt, 1, 2), of(1, 2)},
	} {
		checkMerge(t, c.l, c.want)
	}
}

// 9.3, held against marks on each byte, over all short lists.
func TestMergeAll(t *testing.T) {
	var all []api.Span
	for from := -1; from < 5; from++ {
		for to := -1; to < 6; to++ {
			all = append(all, api.Span{From: from, To: to})
		}
	}
	for l := range lists(all, 3) {
		if got, want := span.Merge(l), modelMerge(l); !slices.Equal(got, want) {
			t.Fatalf("Merge(%v): %v; want %v", l, got, want)
		}
		total := 0
		for _, x := range l {
			total += max(0, x.To-x.From)
		}
		if got := span.Total(l); got != total {
			t.Fatalf("Total(%v): %d; want %d", l, got, total)
		}
	}
	for l := range lists(of(0, 1, 1, 3, 2, 4, 5, 6, 4, 4, 0, 7), 6) {
		if got, want := span.Merge(l), modelMerge(l); !slices.Equal(got, want) {
			t.Fatalf("Merge(%v): %v; want %v", l, got, want)
		}
	}
}

// 9.3: Total counts twice what stands there twice, and nothing of what is none.
func TestTotal(t *testing.T) {
	for _, c := range []struct {
		l    []api.Span
		want int
	}{
		{nil, 0}, {of(0, 0), 0}, {of(5, 3), 0}, {of(0, 3, 0, 3), 6}, {of(-2, 3), 5}, {of(0, math.MaxInt), math.MaxInt}, {of(math.MaxInt, math.MinInt, 0, 1), 1},
		{of(0, math.MaxInt-1, 7, 8), math.MaxInt},
	} {
		if got := span.Total(c.l); got != c.want {
			t.Errorf("Total(%v): %d; want %d", c.l, got, c.want)
		}
	}
	span.Total(of(math.MinInt, math.MaxInt, 0, math.MaxInt)) // R1
}

// 9.4.
func TestCut(t *testing.T) {
	const body = "0123456789"
	for from := -2; from < 13; from++ {
		for to := -2; to < 13; to++ {
			x := api.Span{From: from, To: to}
			want, wantErr := "", api.ErrSpan
			if modelSpan(x, len(body)) {
				want, wantErr = body[from:to], api.OK
			}
			if s, err := span.Cut(body, x); s != want || err != wantErr {
				t.Errorf("Cut(%v): %q, %d; want %q, %d", x, s, err, want, wantErr)
			}
		}
	}
	for _, x := range of(0, 0, 0, 1, -1, 0, math.MinInt, math.MaxInt, math.MaxInt, math.MinInt) {
		if s, err := span.Cut("", x); s != "" || err != api.ErrSpan {
			t.Errorf("Cut of nothing, %v: %q, %d", x, s, err)
		}
	}
}

// 9.9: Cut of Merge's spans has each byte that was asked for, once.
func TestCutOfMerge(t *testing.T) {
	const body = "0123456789"
	for l := range lists(of(0, 1, 0, 10, 2, 4, 3, 5, 4, 6, 9, 10, 7, 8), 4) {
		got := ""
		for _, x := range span.Merge(l) {
			s, err := span.Cut(body, x)
			if err != api.OK {
				t.Fatalf("Cut of %v of Merge(%v): %d", x, l, err)
			}
			got += s
		}
		want := ""
		for i, c := range body {
			if slices.ContainsFunc(l, func(x api.Span) bool { return x.From <= i && i < x.To }) {
				want += string(c)
			}
		}
		if got != want || span.Total(span.Merge(l)) != len(want) {
			t.Fatalf("Merge(%v): %q; want %q", l, got, want)
		}
	}
}

// R1: long lists.
func TestMergeLong(t *testing.T) {
	const n = 100000
	var apart, touching []api.Span
	for i := range n {
		apart = append(apart, api.Span{From: 2 * (n - i), To: 2*(n-i) + 1})
		touching = append(touching, api.Span{From: n - i, To: n - i + 1})
	}
	got := span.Merge(apart)
	slices.Reverse(apart)
	if !slices.Equal(got, apart) || span.Total(apart) != n {
		t.Error("Merge of many:", len(got))
	}
	checkMerge(t, touching, of(1, n+1))
	body := strings.Repeat("a", n)
	if s, err := span.Cut(body, api.Span{From: 1, To: n}); len(s) != n-1 || err != api.OK {
		t.Error("Cut:", len(s), err)
	}
}
