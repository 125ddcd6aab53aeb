package field_test

import (
	"slices"
	"strings"
	"testing"

	"turnpike/api"
	"turnpike/field"
)

var mixed = of("A", "1", "b", "2", "a", "", "C", "3", "A", "1, 4")

// 6.4
func TestFindAllJoined(t *testing.T) {
	for _, x := range []struct {
		l      []api.Field
		name   string
		all    []string
		joined string
	}{
		{mixed, "A", []string{"1", "", "1, 4"}, "1, , 1, 4"},
		{mixed, "a", []string{"1", "", "1, 4"}, "1, , 1, 4"},
		{mixed, "B", []string{"2"}, "2"},
		{mixed, "c", []string{"3"}, "3"},
		{mixed, "d", nil, ""},
		{mixed, "", nil, ""},
		{mixed, "A ", nil, ""},
		{nil, "A", nil, ""},
		{of("A", ""), "a", []string{""}, ""},
		{of("A", "", "A", "b"), "a", []string{"", "b"}, ", b"},
		{of("", "x"), "", []string{"x"}, "x"},
		{of("a b", " \x00"), "A B", []string{" \x00"}, " \x00"},
		{of("\xc0", "x"), "\xe0", nil, ""},
		{of("Connection", "close", "connection", " Keep-Alive"), "CONNECTION", []string{"close", " Keep-Alive"}, "close,  Keep-Alive"},
	} {
		if got := field.All(x.l, x.name); !slices.Equal(got, x.all) {
			t.Errorf("All(%q, %q): %q", x.l, x.name, got)
		}
		if got, ok := field.Joined(x.l, x.name); got != x.joined || ok != (len(x.all) > 0) {
			t.Errorf("Joined(%q, %q): %q, %v", x.l, x.name, got, ok)
		}
		first := ""
		if len(x.all) > 0 {
			first = x.all[0]
		}
		if got, ok := field.Find(x.l, x.name); got != first || ok != (len(x.all) > 0) {
			t.Errorf("Find(%q, %q): %q, %v", x.l, x.name, got, ok)
		}
	}
}

// 6.4, the example 4.
func TestListAndTokens(t *testing.T) {
	for _, x := range []struct {
		l         []api.Field
		list      []string
		tokens    []string
		listErr   api.Errno
		tokensErr api.Errno
	}{
		{of("Connection", "close", "connection", " Keep-Alive"), []string{"close", "Keep-Alive"}, []string{"close", "keep-alive"}, api.OK, api.OK},
		{nil, nil, nil, api.OK, api.OK},
		{of("Connection", ""), nil, nil, api.OK, api.OK},
		{of("Connection", ", ,\t,"), nil, nil, api.OK, api.OK},
		{of("Connection", "a,b", "X", "\"", "Connection", "B ,"), []string{"a", "b", "B"}, []string{"a", "b", "b"}, api.OK, api.OK},
		{of("Connection", `"a,b"`), []string{`"a,b"`}, nil, api.OK, api.ErrToken},
		{of("Connection", "a b", "Connection", "c"), []string{"a b", "c"}, nil, api.OK, api.ErrToken},
		{of("Connection", "c", "Connection", "a/b"), []string{"c", "a/b"}, nil, api.OK, api.ErrToken},
		{of("Connection", "a", "Connection", `"`), nil, nil, api.ErrList, api.ErrList},
		{of("Connection", "a b", "Connection", `"`), nil, nil, api.ErrList, api.ErrList},
		{of("Connection", `"`, "Connection", `"`), nil, nil, api.ErrList, api.ErrList},
	} {
		if got, err := field.List(x.l, "CONNECTION"); !slices.Equal(got, x.list) || err != x.listErr {
			t.Errorf("List(%q): %q, %d", x.l, got, err)
		}
		if got, err := field.Tokens(x.l, "CONNECTION"); !slices.Equal(got, x.tokens) || err != x.tokensErr {
			t.Errorf("Tokens(%q): %q, %d", x.l, got, err)
		}
	}
}

// 6.4, the example 4.
func TestHas(t *testing.T) {
	l := of("Connection", "close", "connection", " Keep-Alive", "X", "y z", "Y", "a,\"", "Z", "")
	for _, x := range []struct {
		name, token string
		want        bool
	}{
		{"CONNECTION", "Close", true}, {"connection", "keep-alive", true}, {"Connection", "KEEP-ALIVE", true},
		{"Connection", "clos", false}, {"Connection", "", false}, {"Connection", "close ", false}, {"Connection", "close, Keep-Alive", false},
		{"X", "y", false}, {"X", "y z", false}, {"Y", "a", false}, {"Z", "", false}, {"W", "a", false}, {"", "", false},
	} {
		if got := field.Has(l, x.name, x.token); got != x.want {
			t.Errorf("Has(%q, %q): %v", x.name, x.token, got)
		}
	}
}

// 6.4, 6.12: all short lists, held against patterns; several fields say what one field with their values joined says.
func TestElementsAgainstPattern(t *testing.T) {
	values := slices.Collect(texts([]string{"A", ",", `"`, " ", `\`, "\x01"}, 3))
	for l := range fieldLists([]string{"N", "m"}, values, 2) {
		checkElements(t, l)
	}
}

func checkElements(t *testing.T, l []api.Field) {
	t.Helper()
	all := modelAll(l, "n")
	elements, ok := modelElements(all)
	wantErr := api.OK
	if !ok {
		wantErr = api.ErrList
	}
	list, err := field.List(l, "n")
	if !slices.Equal(list, elements) || err != wantErr {
		t.Fatalf("List(%q): %q, %d; want %q, %d", l, list, err, elements, wantErr)
	}
	joined, _ := field.Joined(l, "N")
	if one, oneErr := field.List(of("n", joined), "N"); err == api.OK && (!slices.Equal(one, list) || oneErr != api.OK) {
		t.Fatalf("List of %q joined: %q, %d; want %q", l, one, oneErr, list)
	}
	tokens, wantErr := modelTokens(all)
	if got, err := field.Tokens(l, "N"); !slices.Equal(got, tokens) || err != wantErr {
		t.Fatalf("Tokens(%q): %q, %d; want %q, %d", l, got, err, tokens, wantErr)
	}
	for _, token := range []string{"a", "A", "aa", ""} {
		if got := field.Has(l, "N", token); got != slices.Contains(tokens, small(token)) {
			t.Fatalf("Has(%q, %q): %v", l, token, got)
		}
	}
}

// 6.5
func TestAdd(t *testing.T) {
	long, wide := strings.Repeat("n", 129), strings.Repeat("v", 8193)
	for _, x := range []struct {
		l           []api.Field
		name, value string
		want        []api.Field
		err         api.Errno
	}{
		{nil, "A", "b", of("A", "b"), api.OK},
		{of("A", "b"), "a", "", of("A", "b", "a", ""), api.OK},
		{of("", "\x00"), "a", "c", of("", "\x00", "a", "c"), api.OK},
		{many(99, "A"), "b", "c", append(many(99, "A"), of("b", "c")...), api.OK},
		{many(100, "A"), "b", "c", nil, api.ErrMany},
		{many(101, "A"), "b", "c", nil, api.ErrMany},
		{nil, "", "b", nil, api.ErrName},
		{nil, long, "b", nil, api.ErrName},
		{nil, "a", " b", nil, api.ErrValue},
		{nil, "a", wide, nil, api.ErrValue},
		{many(100, "A"), "a b", " c", nil, api.ErrName},
		{many(100, "A"), "a", "c\n", nil, api.ErrValue},
	} {
		if got, err := field.Add(x.l, x.name, x.value); !slices.Equal(got, x.want) || err != x.err {
			t.Errorf("Add(%.40q, %.20q, %.20q): %.60q, %d", x.l, x.name, x.value, got, err)
		}
	}
}

// 6.5
func TestSet(t *testing.T) {
	for _, x := range []struct {
		l           []api.Field
		name, value string
		want        []api.Field
		err         api.Errno
	}{
		{nil, "A", "b", of("A", "b"), api.OK},
		{mixed, "a", "9", of("a", "9", "b", "2", "C", "3"), api.OK},
		{mixed, "B", "9", of("A", "1", "B", "9", "a", "", "C", "3", "A", "1, 4"), api.OK},
		{mixed, "c", "", of("A", "1", "b", "2", "a", "", "c", "", "A", "1, 4"), api.OK},
		{mixed, "D", "9", append(slices.Clone(mixed), of("D", "9")...), api.OK},
		{of("b", "1", "", "\x00", "b", "2"), "B", "3", of("B", "3", "", "\x00"), api.OK},
		{many(99, "A"), "b", "c", append(many(99, "A"), of("b", "c")...), api.OK},
		{many(100, "A"), "b", "c", nil, api.ErrMany},
		{many(150, "A"), "a", "c", of("a", "c"), api.OK},
		{append(many(99, "A"), of("b", "c")...), "B", "d", append(many(99, "A"), of("B", "d")...), api.OK},
		{append(many(99, "A"), of("b", "c", "B", "c")...), "B", "d", append(many(99, "A"), of("B", "d")...), api.OK},
		{append(many(100, "A"), of("b", "c")...), "B", "d", nil, api.ErrMany},
		{append(many(101, "A"), of("b", "c")...), "B", " d", nil, api.ErrValue},
		{many(101, "A"), "", " ", nil, api.ErrName},
		{of("a b", "1"), "a b", "2", nil, api.ErrName},
		{mixed, "", "2", nil, api.ErrName},
		{mixed, "A", "\x7f", nil, api.ErrValue},
		{mixed, "D", "\x7f", nil, api.ErrValue},
	} {
		if got, err := field.Set(x.l, x.name, x.value); !slices.Equal(got, x.want) || err != x.err {
			t.Errorf("Set(%.40q, %.20q, %.20q): %.60q, %d", x.l, x.name, x.value, got, err)
		}
	}
}

// 6.5
func TestRemove(t *testing.T) {
	for _, x := range []struct {
		l    []api.Field
		name string
		want []api.Field
	}{
		{nil, "A", nil},
		{mixed, "A", of("b", "2", "C", "3")},
		{mixed, "a", of("b", "2", "C", "3")},
		{mixed, "B", of("A", "1", "a", "", "C", "3", "A", "1, 4")},
		{mixed, "", mixed},
		{mixed, "D", mixed},
		{of("", "x", "a", "y"), "", of("a", "y")},
		{many(300, "A"), "b", many(300, "A")},
		{many(300, "A"), "a", nil},
	} {
		if got := field.Remove(x.l, x.name); !slices.Equal(got, x.want) {
			t.Errorf("Remove(%.40q, %q): %.60q", x.l, x.name, got)
		}
	}
}

// 6.5: all short lists; what a change answers is told by All of each name.
func TestChangesOfAllShortLists(t *testing.T) {
	for l := range fieldLists([]string{"a", "A", "b"}, []string{"1", "2"}, 4) {
		for _, name := range []string{"a", "B", "c"} {
			added, _ := field.Add(l, name, "3")
			set, _ := field.Set(l, name, "3")
			removed := field.Remove(l, name)
			if want := append(slices.Clip(l), of(name, "3")...); !slices.Equal(added, want) {
				t.Fatalf("Add(%q, %q): %q", l, name, added)
			}
			if want := slices.DeleteFunc(slices.Clone(l), func(f api.Field) bool { return small(f.Name) == small(name) }); !slices.Equal(removed, want) {
				t.Fatalf("Remove(%q, %q): %q", l, name, removed)
			}
			if !slices.Equal(set, modelSet(l, name)) {
				t.Fatalf("Set(%q, %q): %q", l, name, set)
			}
		}
	}
}

func modelSet(l []api.Field, name string) []api.Field {
	var out []api.Field
	done := false
	for _, f := range append(slices.Clip(l), of(name, "")...) {
		switch {
		case small(f.Name) != small(name):
			out = append(out, f)
		case !done:
			out, done = append(out, of(name, "3")...), true
		}
	}
	return out
}

// R4: what is handed in stays as it is, with the room behind its end, and what is handed out is nobody else's.
func TestListsAreNew(t *testing.T) {
	room := append(of("A", "1, 2", "b", "3", "Connection", "b", "A", "4"), of("x", "y", "x", "y")...)
	before := slices.Clone(room)
	l := room[:4]
	for round := range 2 {
		var out [][]api.Field
		added, _ := field.Add(l, "c", "5")
		set, _ := field.Set(l, "a", "5")
		setNew, _ := field.Set(l, "c", "5")
		out = append(out, added, set, setNew, field.Remove(l, "a"), field.Remove(l, "c"), field.Onward(l))
		for i, answer := range out {
			want := [][]api.Field{
				of("A", "1, 2", "b", "3", "Connection", "b", "A", "4", "c", "5"),
				of("a", "5", "b", "3", "Connection", "b"),
				of("A", "1, 2", "b", "3", "Connection", "b", "A", "4", "c", "5"),
				of("b", "3", "Connection", "b"),
				of("A", "1, 2", "b", "3", "Connection", "b", "A", "4"),
				of("A", "1, 2", "A", "4"),
			}[i]
			if !slices.Equal(answer, want) {
				t.Fatalf("round %d, answer %d: %q; want %q", round, i, answer, want)
			}
			soil(answer, api.Field{Name: "soiled"})
		}
		all := field.All(l, "a")
		list, _ := field.List(l, "a")
		tokens, _ := field.Tokens(l, "a")
		codings, _, _ := field.Codings(of("Transfer-Encoding", "a, b"))
		for i, answer := range [][]string{all, list, tokens, codings} {
			if want := [][]string{{"1, 2", "4"}, {"1", "2", "4"}, {"1", "2", "4"}, {"a", "b"}}[i]; !slices.Equal(answer, want) {
				t.Fatalf("round %d, texts %d: %q; want %q", round, i, answer, want)
			}
			soil(answer, "soiled")
		}
		if !slices.Equal(room, before) {
			t.Fatalf("round %d: what was handed in is %q", round, room)
		}
	}
}

// soil writes over a list and the spare room behind its end.
func soil[T any](l []T, with T) {
	for i := range l[:cap(l)] {
		l[:cap(l)][i] = with
	}
}

// R1: long lists end soon.
func TestLongLists(t *testing.T) {
	l := many(1<<18, "A")
	if got := field.All(l, "a"); len(got) != len(l) {
		t.Errorf("All: %d", len(got))
	}
	if got, err := field.Tokens(l, "a"); len(got) != len(l) || err != api.OK {
		t.Errorf("Tokens: %d, %d", len(got), err)
	}
	if got, err := field.Set(l, "a", "b"); !slices.Equal(got, of("a", "b")) || err != api.OK {
		t.Errorf("Set: %d, %d", len(got), err)
	}
	if got := field.Onward(append(l, of("Connection", strings.Repeat("a, b,", 1<<16))...)); len(got) != 0 {
		t.Errorf("Onward: %d", len(got))
	}
}
