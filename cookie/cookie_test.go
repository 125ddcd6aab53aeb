package cookie_test

import (
	"slices"
	"strings"
	"testing"

	"turnpike/api"
	"turnpike/cookie"
)

func one(name, value string) api.Cookie { return api.Cookie{Name: name, Value: value} }

func checkParse(t *testing.T, s string, want []api.Cookie, none int) {
	t.Helper()
	if l, n := cookie.Parse(s); !slices.Equal(l, want) || n != none {
		t.Fatalf("Parse(%.100q): %s, %d; want %s, %d", s, show(l), n, show(want), none)
	}
}

func checkPrint(t *testing.T, l []api.Cookie, want string, wantErr api.Errno) {
	t.Helper()
	if s, err := cookie.Print(l); s != want || err != wantErr {
		t.Fatalf("Print(%s): %.100q, %d; want %.100q, %d", show(l), s, err, want, wantErr)
	}
}

// 16.1: example 1, and the edges of pieces.
func TestParse(t *testing.T) {
	checkParse(t, "a=1; b=\"x\";c ; =2;d=e=f", []api.Cookie{one("a", "1"), one("b", `"x"`), one("d", "e=f")}, 2)
	for _, x := range []struct {
		s    string
		want []api.Cookie
		none int
	}{
		{"", nil, 0},
		{";", nil, 0},
		{" ;\t; \t ;", nil, 0},
		{"a", nil, 1},
		{"a=", []api.Cookie{one("a", "")}, 0},
		{"=", nil, 1},
		{" = ;=;= ", nil, 3},
		{"a=1", []api.Cookie{one("a", "1")}, 0},
		{"a=1;", []api.Cookie{one("a", "1")}, 0},
		{";a=1;;b=2;", []api.Cookie{one("a", "1"), one("b", "2")}, 0},
		{"\t a \t=\t 1\t ;b = ", []api.Cookie{one("a", "1"), one("b", "")}, 0},
		{"a=1;a=2;A=3", []api.Cookie{one("a", "1"), one("a", "2"), one("A", "3")}, 0},
		{"b=1;a=2", []api.Cookie{one("b", "1"), one("a", "2")}, 0},
		{"a==", []api.Cookie{one("a", "=")}, 0},
		{"a= =", []api.Cookie{one("a", "=")}, 0},
		{"a=1 2", nil, 1},
		{"a b=1", nil, 1},
		{"a=1,b=2", nil, 1},
		{"a=\"", nil, 1},
		{"a=\"\"", []api.Cookie{one("a", `""`)}, 0},
		{"a=\"\"\"", nil, 1},
		{"a=\"x", nil, 1},
		{"a=x\"", nil, 1},
		{"a=\"x\"y", nil, 1},
		{"a=\" x\"", nil, 1},
		{"a=\"x;y\"", nil, 2},
		{"a=\\", nil, 1},
		{"\"a\"=1", nil, 1},
		{"a=1\r\n", nil, 1},
		{"\u00a0;a=1", []api.Cookie{one("a", "1")}, 1},
		{"$Version=1; x:y=2", []api.Cookie{one("$Version", "1")}, 1},
	} {
		checkParse(t, x.s, x.want, x.none)
	}
}

// 16.1: all short texts.
func TestParseAgainstPattern(t *testing.T) {
	for s := range texts([]string{"a", "=", ";", " ", "\t", `"`, ",", "1"}, 6) {
		want, none := modelParse(s)
		checkParse(t, s, want, none)
	}
}

// 16.1: each byte in a name and in a value, in and out of quotes, by all three calls that read or write it.
func TestCookieBytes(t *testing.T) {
	for _, b := range everyByte() {
		for _, piece := range []string{b, "x" + b, b + "x", "x" + b + "x"} {
			for _, c := range []api.Cookie{one(piece, "v"), one("n", piece), one("n", `"`+piece+`"`)} {
				want, wantErr := c.Name+"="+c.Value, api.OK
				if !modelCookie(c) {
					want, wantErr = "", api.ErrCookie
				}
				checkPrint(t, []api.Cookie{c}, want, wantErr)
				text := c.Name + "=" + c.Value
				l, none := modelParse(text)
				checkParse(t, text, l, none)
				checkParseSet(t, text, 0)
				checkPrintSet(t, api.SetCookie{Name: c.Name, Value: c.Value})
			}
		}
	}
}

// 16.1, 16.2, 16.5: a name and a value at their limit and one past it.
func TestCookieLength(t *testing.T) {
	jar, _ := cookie.New(10)
	for _, n := range []int{1, 2, 100, 4094, 4095, 4096, 4097} {
		for _, extra := range []int{-1, 0, 1} {
			if 4096+extra < n {
				continue
			}
			c := one(strings.Repeat("n", n), strings.Repeat("v", 4096+extra-n))
			if n < 4090 {
				checkLength(t, jar, one(c.Name, `"`+c.Value[2:]+`"`), extra < 1)
			}
			checkLength(t, jar, c, extra < 1)
		}
	}
}

func checkLength(t *testing.T, jar *cookie.Jar, c api.Cookie, good bool) {
	t.Helper()
	text, set := c.Name+"="+c.Value, api.SetCookie{Name: c.Name, Value: c.Value}
	if good {
		checkParse(t, " "+text+" ; b=1", []api.Cookie{c, one("b", "1")}, 0)
		checkPrint(t, []api.Cookie{one("b", "1"), c}, "b=1; "+text, api.OK)
		if got, err := cookie.ParseSet(text, 0); got != set || err != api.OK {
			t.Errorf("ParseSet of %d bytes: %d", len(text), err)
		}
		if s, err := cookie.PrintSet(set); s != text || err != api.OK {
			t.Errorf("PrintSet of %d bytes: %d", len(text), err)
		}
		if err := jar.Set(set, "h", "/", true, 0); err != api.OK {
			t.Errorf("Set of %d bytes: %d", len(text), err)
		}
		return
	}
	checkParse(t, text+"; b=1", []api.Cookie{one("b", "1")}, 1)
	checkPrint(t, []api.Cookie{one("b", "1"), c}, "", api.ErrCookie)
	if got, err := cookie.ParseSet(text, 0); got != (api.SetCookie{}) || err != api.ErrCookie {
		t.Errorf("ParseSet of %d bytes: %d", len(text), err)
	}
	if s, err := cookie.PrintSet(set); s != "" || err != api.ErrCookie {
		t.Errorf("PrintSet of %d bytes: %d", len(text), err)
	}
	if err := jar.Set(set, "h", "/", true, 0); err != api.ErrCookie {
		t.Errorf("Set of %d bytes: %d", len(text), err)
	}
}

// 16.1
func TestPrint(t *testing.T) {
	checkPrint(t, []api.Cookie{one("a", "1"), one("b", "2")}, "a=1; b=2", api.OK)
	checkPrint(t, nil, "", api.OK)
	checkPrint(t, []api.Cookie{one("a", "")}, "a=", api.OK)
	checkPrint(t, []api.Cookie{one("b", `"x"`), one("a", "="), one("b", "1")}, `b="x"; a==; b=1`, api.OK)
	for _, c := range []api.Cookie{one("", "1"), one("", ""), one("a b", "1"), one("a=", "1"), one(" a", "1"), one("a", "x y"), one("a", " x"), one("a", ";"), one("a", `"`), one("a", `"x`), one("a", "\n")} {
		checkPrint(t, []api.Cookie{c}, "", api.ErrCookie)
		checkPrint(t, []api.Cookie{one("a", "1"), c}, "", api.ErrCookie)
		checkPrint(t, []api.Cookie{c, one("a", "1")}, "", api.ErrCookie)
	}
}

// 16.8: Parse of Print(l) is l and 0.
func TestParseOfPrint(t *testing.T) {
	signs := ""
	for _, b := range everyByte() {
		if modelCookie(one("n", b)) {
			signs += b
		}
	}
	some := []api.Cookie{one("a", ""), one("a", "1"), one("B-c", `""`), one("!#$%&'*+-.^_`|~", `"=="`), one("x", signs), one("y", `"`+signs+`"`)}
	for l := range lists(some, 4) {
		s, err := cookie.Print(l)
		if err != api.OK {
			t.Fatalf("Print(%s): %d", show(l), err)
		}
		checkParse(t, s, l, 0)
	}
}
