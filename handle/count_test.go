package handle_test

import (
	"strconv"
	"strings"
	"testing"

	"turnpike/api"
	"turnpike/cookie"
	"turnpike/handle"
)

// checkCount asks the handler that counts in the cookie n, with fields Cookie of some values.
func checkCount(t *testing.T, want int, values ...string) {
	t.Helper()
	var l []api.Field
	for i, value := range values {
		l = append(l, api.Field{Name: []string{"Cookie", "COOKIE", "cookie"}[i%3], Value: value})
	}
	digits := strconv.Itoa(want)
	a := api.Asked{Request: api.Request{Method: "GET", Fields: l}, Now: 7}
	checkAnswer(t, api.Handler{Kind: api.HandleCount, Name: "n"}, a, nil, text(digits+"\n", "Set-Cookie", "n="+digits+"; Path=/"))
}

// 18.2: example 4, and the first time.
func TestCount(t *testing.T) {
	checkCount(t, 42, "n=41")
	checkCount(t, 1)
	checkCount(t, 1, "")
	checkCount(t, 1, "m=5")
	checkCount(t, 1, "n=0")
	checkCount(t, 8, "n=007")
	checkCount(t, 2, "n=00000000000000000001")
}

// 18.2: what is no number, or too great a one, counts as 0.
func TestCountOfNoNumber(t *testing.T) {
	checkCount(t, 999999999, "n=999999998")
	checkCount(t, 1000000000, "n=999999999")
	checkCount(t, 1, "n=1000000000")
	checkCount(t, 1, "n=99999999999999999999999")
	for _, value := range []string{"n=", "n=x", "n=-1", "n=+1", "n=1x", "n=\"5\"", "n=1.5", "n=0x10"} {
		checkCount(t, 1, value)
	}
}

// 18.2: of several cookies of that name the first one counts, in whichever field it stands, number or not.
func TestCountOfTheFirst(t *testing.T) {
	checkCount(t, 3, "n=2; n=5")
	checkCount(t, 1, "n=x; n=5")
	checkCount(t, 1, "n=", "n=5")
	checkCount(t, 6, "a=1; n=5; n=7", "n=9")
	checkCount(t, 10, "a=1", "m=2; n=9", "n=3")
	checkCount(t, 4, "n", "n=3")
	checkCount(t, 4, "n=a b; n=3")
}

// 18.2: a cookie's name goes by case, and is the whole name; another field is none of Cookie's.
func TestCountNames(t *testing.T) {
	checkCount(t, 1, "N=5")
	checkCount(t, 1, "nn=5; an=6; n1=7")
	checkCount(t, 6, " n = 5 ;N=7")
	a := api.Asked{Request: api.Request{Fields: fields("Set-Cookie", "n=5", "X-Cookie", "n=6")}}
	checkAnswer(t, api.Handler{Kind: api.HandleCount, Name: "n"}, a, nil, text("1\n", "Set-Cookie", "n=1; Path=/"))
	a = api.Asked{Request: api.Request{Fields: fields("Cookie", "N=5; $x!=6")}}
	checkAnswer(t, api.Handler{Kind: api.HandleCount, Name: "N"}, a, nil, text("6\n", "Set-Cookie", "N=6; Path=/"))
	checkAnswer(t, api.Handler{Kind: api.HandleCount, Name: "$x!"}, a, nil, text("7\n", "Set-Cookie", "$x!=7; Path=/"))
}

// 18.2: a name with which a cookie is too long is set by nothing; it is counted all the same.
func TestCountLongName(t *testing.T) {
	fits, long := strings.Repeat("n", 4095), strings.Repeat("n", 4096)
	checkAnswer(t, api.Handler{Kind: api.HandleCount, Name: fits}, api.Asked{}, nil, text("1\n", "Set-Cookie", fits+"=1; Path=/"))
	checkAnswer(t, api.Handler{Kind: api.HandleCount, Name: long}, api.Asked{}, nil, text("1\n", "Set-Cookie", ""))
	a := api.Asked{Request: api.Request{Fields: fields("Cookie", fits+"=9")}}
	checkAnswer(t, api.Handler{Kind: api.HandleCount, Name: fits}, a, nil, text("10\n", "Set-Cookie", ""))
}

// 18.4: asked again with what it set it answers one more; behind 1000000000 it begins anew.
func TestCountGoesOn(t *testing.T) {
	h := api.Handler{Kind: api.HandleCount, Name: "n"}
	for _, begin := range []int{0, 98, 999999990} {
		l := fields("Cookie", "n="+strconv.Itoa(begin))
		want := begin
		for range 15 {
			want++
			if want > 1000000000 {
				want = 1
			}
			r := handle.Answer(h, api.Asked{Request: api.Request{Fields: l}}, nil)
			if r.Body != strconv.Itoa(want)+"\n" {
				t.Fatalf("%q, wanted %d", r.Body, want)
			}
			set, err := cookie.ParseSet(r.Fields[1].Value, 0)
			if err != api.OK || set.Path != "/" {
				t.Fatal(show(r), err)
			}
			l = fields("Cookie", set.Name+"="+set.Value)
		}
	}
}

// 18.2: fields put together of pieces against the model.
func TestCountByModel(t *testing.T) {
	h := api.Handler{Kind: api.HandleCount, Name: "n"}
	all := []string{"n", "=", "9", "0", ";", " ", "x", "999999999", "\""}
	for value := range texts(all, 5) {
		a := api.Asked{Request: api.Request{Fields: fields("a", "b", "Cookie", value, "cookie", "n=1")}}
		if r := handle.Answer(h, a, nil); !same(r, modelAnswer(h, a, nil)) {
			t.Fatalf("of %q: %s", value, show(r))
		}
	}
}
