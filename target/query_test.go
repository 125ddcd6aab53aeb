package target_test

import (
	"slices"
	"strings"
	"testing"

	"turnpike/api"
	"turnpike/target"
)

func pair(name, value string) api.Param { return api.Param{Name: name, Value: value, Has: true} }

func alone(name string) api.Param { return api.Param{Name: name} }

func checkQuery(t *testing.T, s string, want []api.Param, place int, fault api.Errno) {
	t.Helper()
	if l, at, err := target.Query(s); !slices.Equal(l, want) || at != place || err != fault {
		t.Errorf("Query(%q): %+v, %d, %d; want %+v, %d, %d", s, l, at, err, want, place, fault)
	}
}

// 5.7, the example 7.
func TestQuery(t *testing.T) {
	for s, want := range map[string][]api.Param{
		"a=1&b&&c=%20+&=x": {pair("a", "1"), alone("b"), pair("c", "  "), pair("", "x")},
		"":                 nil, "&": nil, "&&&": nil, "=": {pair("", "")}, "==": {pair("", "=")}, "a==b=": {pair("a", "=b=")}, "a=": {pair("a", "")},
		"&a&": {alone("a")}, "a&a=1&a": {alone("a"), pair("a", "1"), alone("a")}, "+": {alone(" ")}, "a+b=c+d": {pair("a b", "c d")},
		"%2B+%2b": {alone("+ +")}, "%26=%3D&%3d": {pair("&", "="), alone("=")}, "%00=%ff%C3": {pair("\x00", "\xff\xc3")}, "%2541": {alone("%41")},
		"a;b=/?:@!$'()*,": {pair("a;b", "/?:@!$'()*,")}, "?a": {alone("?a")},
	} {
		checkQuery(t, s, want, 0, api.OK)
	}
	for s, place := range map[string]int{"a=%": 2, "%": 0, "%4": 0, "%4g": 0, "%g4": 0, "a%4&b": 1, "%% ": 0, "% ": 0, "%41%": 3, "a&%=": 2, "+%+4": 1} {
		checkQuery(t, s, nil, place, api.ErrPercent)
	}
	for s, place := range map[string]int{"a b": 1, "#": 0, "a=\"": 2, " %": 0, "%41\x80": 3, "\x00": 0, "a&[": 2, "<": 0, "a\n": 1} {
		checkQuery(t, s, nil, place, api.ErrQuery)
	}
}

func TestQueryModel(t *testing.T) {
	for s := range texts([]string{"&", "=", "+", "a", "%41", "%2b", "%", "#", "?", "0"}, 5) {
		if place, err := modelFault(s, queryFront, api.ErrQuery); err != api.OK {
			checkQuery(t, s, nil, place, err)
		} else {
			checkQuery(t, s, modelQuery(s), 0, api.OK)
		}
	}
	for c := range 256 {
		s := "a" + string([]byte{byte(c)}) + "1"
		place, err := modelFault(s, queryFront, api.ErrQuery)
		if good := strings.Contains(unreserved+delimiters+":@/?", s[1:2]); good != (err == api.OK) {
			t.Errorf("the model takes %q otherwise", s)
		}
		if err != api.OK {
			checkQuery(t, s, nil, place, err)
		} else {
			checkQuery(t, s, modelQuery(s), 0, api.OK)
		}
	}
}

// 5.7, the example 7; and 5.8: pairs come out of their text again.
func TestPrintQuery(t *testing.T) {
	for want, l := range map[string][]api.Param{
		"a=%26": {pair("a", "&")}, "": nil, "=": {pair("", "")}, "=x": {pair("", "x")}, "a": {alone("a")}, "a=": {pair("a", "")}, "a&b=c&a": {alone("a"), pair("b", "c"), alone("a")},
		"%20%2B%3D%25=%FF%00-._~%2A%2F": {pair(" +=%", "\xff\x00-._~*/")}, "%26": {alone("&")},
	} {
		if s, err := target.PrintQuery(l); s != want || err != api.OK {
			t.Errorf("PrintQuery(%+v): %q, %d; want %q", l, s, err, want)
		}
	}
	some := []string{"", "a", "&", "=", "+", " ", "%41", "\xff\x00#"}
	for i := range 16 * 8 * 8 {
		p := api.Param{Name: some[i%8], Value: some[i/8%8], Has: i/64%2 == 0}
		other := pair(some[i/128], "x")
		good := p.Has || p.Value == "" && p.Name != ""
		for _, l := range [][]api.Param{{p}, {p, other}, {other, p}, {p, p, alone("z")}} {
			s, err := target.PrintQuery(l)
			if !good {
				if s != "" || err != api.ErrQuery {
					t.Fatalf("PrintQuery(%+v): %q, %d; want ErrQuery", l, s, err)
				}
				continue
			}
			if err != api.OK {
				t.Fatalf("PrintQuery(%+v): %d", l, err)
			}
			checkQuery(t, s, l, 0, api.OK)
		}
	}
}

// R1 and R4: a long query ends soon, and what is handed in and out is nobody else's.
func TestQueriesAlone(t *testing.T) {
	const count = 200000
	for s, want := range map[string]int{strings.Repeat("a&", count): count, strings.Repeat("&", count): 0, strings.Repeat("%41", count): 1, "=" + strings.Repeat("=", count): 1} {
		if l, at, err := target.Query(s); len(l) != want || at != 0 || err != api.OK {
			t.Error(len(l), want, at, err)
		}
	}
	store := []api.Param{pair("a", "b"), alone("c"), alone("kept")}
	if s, err := target.PrintQuery(store[:2]); s != "a=b&c" || err != api.OK || !slices.Equal(store, []api.Param{pair("a", "b"), alone("c"), alone("kept")}) {
		t.Errorf("PrintQuery changed its argument: %+v", store)
	}
	one, _, _ := target.Query("a&b&c")
	two, _, _ := target.Query("a&b&c")
	for i := range one[:cap(one)] {
		one[:cap(one)][i] = alone("x")
	}
	if !slices.Equal(two, []api.Param{alone("a"), alone("b"), alone("c")}) {
		t.Errorf("two answers share memory: %+v", two)
	}
}
