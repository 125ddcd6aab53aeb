package octet_test

import (
	"regexp"
	"slices"
	"strings"
	"testing"

	"turnpike/api"
	"turnpike/octet"
)

func has(name, value string) api.Param { return api.Param{Name: name, Value: value, Has: true} }

func bare(name string) api.Param { return api.Param{Name: name} }

// 1.8
func TestParams(t *testing.T) {
	for _, x := range []struct {
		s    string
		want []api.Param
		n    int
	}{
		{" ; a=1;;B=\"x y\" ;c z", []api.Param{has("a", "1"), has("B", "x y"), bare("c")}, 18},
		{"x", nil, 0},
		{"; ", nil, 1},
		{"", nil, 0},
		{"  \t", nil, 0},
		{" x;a=1", nil, 0},
		{"=a", nil, 0},
		{";", nil, 1},
		{" \t;", nil, 3},
		{" ; ; ;  ", nil, 6},
		{";;;", nil, 3},
		{";a", []api.Param{bare("a")}, 2},
		{";a ", []api.Param{bare("a")}, 2},
		{";a \t; ", []api.Param{bare("a")}, 5},
		{";\ta=b", []api.Param{has("a", "b")}, 5},
		{";a=b;a=c;A", []api.Param{has("a", "b"), has("a", "c"), bare("A")}, 10},
		{`;a=""`, []api.Param{has("a", "")}, 5},
		{`;a="" `, []api.Param{has("a", "")}, 5},
		{`;a="\"\\;"`, []api.Param{has("a", `"\;`)}, 10},
		{`;a="x"y`, []api.Param{has("a", "x")}, 6},
		{`;a="x"="`, []api.Param{has("a", "x")}, 6},
		{`;a=b"`, []api.Param{has("a", "b")}, 4},
		{";a=b=c", []api.Param{has("a", "b")}, 4},
		{";a =b", []api.Param{bare("a")}, 2},
		{";a/b;c", []api.Param{bare("a")}, 2},
		{";a b;c=", []api.Param{bare("a")}, 2},
		{";a\n;c=", []api.Param{bare("a")}, 2},
		{";=b", nil, 1},
		{"; =", nil, 1},
		{`;"a"=b`, nil, 1},
		{";a,;b", []api.Param{bare("a")}, 2},
		{";a=1,;b", []api.Param{has("a", "1")}, 4},
		{";a;\xff", []api.Param{bare("a")}, 3},
	} {
		if got, n, err := octet.Params(x.s); !slices.Equal(got, x.want) || n != x.n || err != api.OK {
			t.Errorf("Params(%q): %v, %d, %d", x.s, got, n, err)
		}
	}
	for _, s := range []string{";a=", ";a= ", ";a= b", ";a=;b=1", ";b=1;a=", ` ; b; a="x`, `;a="\"`, ";a=\"\n\"", ";a=/", ";a==b", ";a=,", ";a=\xff", ";a=\\"} {
		if got, n, err := octet.Params(s); len(got) != 0 || n != 0 || err != api.ErrParam {
			t.Errorf("Params(%q): %v, %d, %d", s, got, n, err)
		}
	}
}

// stepOfParams is a semicolon and what may stand behind it up to an = , over the bytes that the test below has; valueOfParam is a value.
var (
	stepOfParams = regexp.MustCompile(`^ *;(?: *([ab]+)(=?))?`)
	valueOfParam = regexp.MustCompile(`^(?:[ab]+|"(?:\\.|[^"\\])*")`)
)

// 1.8: all short texts, held against patterns.
func TestParamsAgainstPattern(t *testing.T) {
	for s := range texts([]string{";", "a", "=", `"`, `\`, " ", ","}, 6) {
		s = ";b" + s
		want, wantN, wantErr := paramsByPattern(s)
		if got, n, err := octet.Params(s); !slices.Equal(got, want) || n != wantN || err != wantErr {
			t.Fatalf("Params(%q): %v, %d, %d; want %v, %d, %d", s, got, n, err, want, wantN, wantErr)
		}
	}
}

func paramsByPattern(s string) ([]api.Param, int, api.Errno) {
	var l []api.Param
	rest := s
	for {
		step := stepOfParams.FindStringSubmatch(rest)
		if step == nil {
			return l, len(s) - len(rest), api.OK
		}
		rest = rest[len(step[0]):]
		p := bare(step[1])
		if step[2] == "=" {
			value := valueOfParam.FindString(rest)
			if value == "" {
				return nil, 0, api.ErrParam
			}
			rest = rest[len(value):]
			p = has(p.Name, value)
			if value[0] == '"' {
				p.Value, _, _ = octet.Unquote(value)
			}
		}
		if p.Name != "" {
			l = append(l, p)
		}
	}
}

// 1.9
func TestPrint(t *testing.T) {
	for _, x := range []struct {
		l    []api.Param
		want string
	}{
		{nil, ""},
		{[]api.Param{}, ""},
		{[]api.Param{has("a", "1"), has("B", "x y"), bare("c")}, `; a=1; B="x y"; c`},
		{[]api.Param{has("a", "")}, `; a=""`},
		{[]api.Param{bare("a"), bare("a")}, "; a; a"},
		{[]api.Param{has("a", `"\`)}, `; a="\"\\"`},
		{[]api.Param{has("a", "\t\xff")}, "; a=\"\t\xff\""},
		{[]api.Param{has("~", "!x/")}, `; ~="!x/"`},
	} {
		if got, err := octet.Print(x.l); got != x.want || err != api.OK {
			t.Errorf("Print(%v): %q, %d", x.l, got, err)
		}
	}
	for _, p := range []api.Param{
		{}, {Name: "a b"}, {Name: "a="}, has("", "1"), has("a;", "1"), {Name: "\xff"},
		{Name: "a", Value: "1"}, {Name: "a", Value: " "}, {Name: "", Value: "1"},
		has("a", "\n"), has("a", "x\x7f"), has("a", "\x00x"), {Name: "a", Value: "\n"},
	} {
		for _, l := range [][]api.Param{{p}, {has("b", "1"), p}, {p, bare("b")}} {
			if got, err := octet.Print(l); got != "" || err != api.ErrParam {
				t.Errorf("Print(%v): %q, %d", l, got, err)
			}
		}
	}
}

// 1.10: Params of Print(l) is l, and the length of all of it.
func TestParamsOfPrint(t *testing.T) {
	var some []api.Param
	for value := range texts([]string{`"`, `\`, "a", ";", "=", " ", "\t", "\xff"}, 3) {
		some = append(some, has("n", value))
	}
	some = append(some, bare("n"), has(signs, signs), has("a", strings.Repeat(`\"`, 500)))
	for _, p := range some {
		checkPrinted(t, []api.Param{p})
		checkPrinted(t, []api.Param{bare("x"), p, bare("y"), p, has("z", "1")})
	}
	checkPrinted(t, some)
	checkPrinted(t, nil)
}

func checkPrinted(t *testing.T, l []api.Param) {
	t.Helper()
	s, err := octet.Print(l)
	if err != api.OK {
		t.Fatalf("Print(%v): %d", l, err)
	}
	if got, n, err := octet.Params(s); !slices.Equal(got, l) || n != len(s) || err != api.OK {
		t.Fatalf("Params(%q): %v, %d, %d", s, got, n, err)
	}
}

// R4
func TestPrintKeepsItsArgument(t *testing.T) {
	store := []api.Param{has("a", "x y"), bare("b"), has("c", "1")}
	octet.Print(store[:1])
	octet.Print(store[:2])
	if !slices.Equal(store, []api.Param{has("a", "x y"), bare("b"), has("c", "1")}) {
		t.Error("Print has changed its argument:", store)
	}
}

func TestParamsAreNew(t *testing.T) {
	want := []api.Param{has("a", "1"), bare("b"), bare("c")}
	first, _, _ := octet.Params(";a=1;b;c")
	second, _, _ := octet.Params(";a=1;b;c")
	spoilt := first[:cap(first)]
	for i := range spoilt {
		spoilt[i] = has("x", "y")
	}
	third, _, _ := octet.Params(";a=1;b;c")
	if !slices.Equal(second, want) || !slices.Equal(third, want) {
		t.Error("Params shares its answers:", second, third)
	}
}
