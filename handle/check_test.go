package handle_test

import (
	"math"
	"strings"
	"testing"

	"turnpike/api"
	"turnpike/handle"
)

// checkOf holds Check of a handler against what is wanted; one that is refused answers 500, whatever it is asked.
func checkOf(t *testing.T, h api.Handler, right bool) {
	t.Helper()
	want := api.ErrHandler
	if right {
		want = api.OK
	}
	if err := handle.Check(h); err != want {
		t.Errorf("Check(%s): %d, wanted %d", show(h), err, want)
	}
	if modelCheck(h) != right {
		t.Errorf("the model of Check(%s) says otherwise", show(h))
	}
	if !right {
		checkAnswer(t, h, api.Asked{}, nil, plain(500, "Internal Server Error"))
	}
}

// rightOnes is a right handler of each kind, by its number.
func rightOnes() []api.Handler {
	return []api.Handler{
		{},
		{Kind: api.HandleText, Status: 200, Media: "text/html", Text: "hi"},
		{Kind: api.HandleStatus, Status: 404},
		{Kind: api.HandleRedirect, Status: 302, Text: "/new/{id}?x"},
		{Kind: api.HandleEcho},
		{Kind: api.HandleParams},
		{Kind: api.HandleStatic, Name: "rest", N: 1},
		{Kind: api.HandleForm, N: 2},
		{Kind: api.HandleCount, Name: "n"},
		{Kind: api.HandleSocket},
	}
}

// 18.1: there are nine kinds.
func TestKinds(t *testing.T) {
	for i, h := range rightOnes() {
		checkOf(t, h, i > 0)
	}
	for _, kind := range []int{math.MinInt, -9, -1, 0, 10, 11, 256, 257, 1 << 32, 1<<32 + 4, math.MaxInt} {
		checkOf(t, api.Handler{Kind: kind}, false)
		for _, h := range rightOnes() {
			h.Kind = kind
			checkOf(t, h, false)
		}
	}
}

// 18.1: a part that a kind does not use is zero or empty; one that it uses and that may not be so is not.
func TestPartsOfOtherKinds(t *testing.T) {
	uses := []string{"", "TMS", "S", "TS", "", "", "Nn", "n", "N", ""}
	mayMiss := []string{"", "T", "", "", "", "", "Nn", "", "", ""}
	for i, h := range rightOnes() {
		if i == 0 {
			continue
		}
		for _, part := range []string{"N", "T", "M", "S", "n"} {
			for _, full := range []bool{true, false} {
				x := h
				switch part {
				case "N":
					x.Name = map[bool]string{true: "a"}[full]
				case "T":
					x.Text = map[bool]string{true: "a"}[full]
				case "M":
					x.Media = map[bool]string{true: "a"}[full]
				case "S":
					x.Status = map[bool]int{true: 301}[full]
				case "n":
					x.N = map[bool]int{true: 1}[full]
				}
				used := strings.Contains(uses[i], part)
				checkOf(t, x, used == full || strings.Contains(mayMiss[i], part))
			}
		}
	}
}

// 18.1: which statuses may be, of each kind that has one, from one end of all numbers to the other.
func TestStatuses(t *testing.T) {
	moved := map[int]int{301: 1, 302: 1, 303: 1, 307: 1, 308: 1}
	check := func(status int) {
		answers := status >= 200 && status <= 599
		checkOf(t, api.Handler{Kind: api.HandleText, Status: status, Media: "a", Text: "b"}, answers && status != 204 && status != 304)
		checkOf(t, api.Handler{Kind: api.HandleStatus, Status: status}, answers)
		checkOf(t, api.Handler{Kind: api.HandleRedirect, Status: status, Text: "b"}, moved[status] > 0)
	}
	for status := -10; status < 1010; status++ {
		check(status)
	}
	for _, status := range []int{math.MinInt, -200, 1<<32 + 200, 1<<32 + 301, math.MaxInt} {
		check(status)
	}
}

// 18.1: a media type is any value of a field, but the empty one; a text is any bytes.
func TestMedias(t *testing.T) {
	check := func(media string, right bool) {
		checkOf(t, api.Handler{Kind: api.HandleText, Status: 200, Media: media, Text: "\r\n\x00"}, right)
	}
	for _, media := range []string{"a", "text/html; charset=utf-8", "no type at all", "\xff", "a\tb", strings.Repeat("m", 8192)} {
		check(media, true)
	}
	for _, media := range []string{"", " ", " a", "a ", "\ta", "a\t", "a\nb", "a\r", "\x00", "a\x7fb", strings.Repeat("m", 8193)} {
		check(media, false)
	}
	for _, c := range everyByte() {
		in := c[0] == '\t' || c[0] > 31 && c[0] != 127
		check("a"+c+"b", in)
		check(c, in && c != " " && c != "\t")
	}
	checkOf(t, api.Handler{Kind: api.HandleText, Status: 200, Media: "a"}, true)
}

// 18.1: which numbers may be, and which names.
func TestNumbersAndNames(t *testing.T) {
	for _, n := range []int{math.MinInt, -1, 0, 1, 2, 3, 999, 1000, 1001, 1<<32 + 1, math.MaxInt} {
		checkOf(t, api.Handler{Kind: api.HandleStatic, N: n}, n == 0 || n == 1)
		checkOf(t, api.Handler{Kind: api.HandleStatic, Name: "a", N: n}, n == 0 || n == 1)
		checkOf(t, api.Handler{Kind: api.HandleForm, N: n}, n >= 1 && n <= 1000)
	}
	static := func(name string, right bool) {
		checkOf(t, api.Handler{Kind: api.HandleStatic, Name: name}, right)
	}
	count := func(name string, right bool) {
		checkOf(t, api.Handler{Kind: api.HandleCount, Name: name}, right)
	}
	for _, name := range []string{"", "a", "Z", "a_", "a1", "aB_9", strings.Repeat("a", 5000)} {
		static(name, true)
		count(name, name != "")
	}
	for _, name := range []string{"_", "1", "1a", "_a", "-", "a-", "a.b", "*", "é"} {
		static(name, false)
		count(name, name != "é")
	}
	for _, name := range []string{" ", "a b", "a=", "a;", "\"a\"", "a/b", "{a}", "a ", "\x00"} {
		static(name, false)
		count(name, false)
	}
	for _, c := range everyByte() {
		letter := c >= "A" && c <= "Z" || c >= "a" && c <= "z"
		behind := letter || c >= "0" && c <= "9" || c == "_"
		static(c, letter)
		static("a"+c, behind)
		static("a"+c+"b", behind)
		count(c, tokenAll.MatchString(bytewise(c)))
		count("a"+c+"b", tokenAll.MatchString(bytewise(c)))
	}
}

// 18.1, 18.2: handlers of all sorts of parts against the model.
func TestCheckByModel(t *testing.T) {
	names, all := []string{"", "a", "1", "a b"}, []string{"", "/{a}", "{", "x"}
	for kind := -1; kind <= 11; kind++ {
		for _, status := range []int{0, 199, 200, 204, 301, 304, 599, 600} {
			for _, n := range []int{0, 1, 2, 1000, 1001} {
				for _, name := range names {
					for _, text := range all {
						for _, media := range []string{"", "a", " "} {
							h := api.Handler{Kind: kind, Name: name, Text: text, Media: media, Status: status, N: n}
							if right := handle.Check(h) == api.OK; right != modelCheck(h) {
								t.Fatalf("Check(%s): %v", show(h), right)
							}
							if r := handle.Answer(h, api.Asked{}, nil); !same(r, modelAnswer(h, api.Asked{}, nil)) {
								t.Fatalf("Answer(%s): %s", show(h), show(r))
							}
						}
					}
				}
			}
		}
	}
}
