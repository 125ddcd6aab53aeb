package parse_test

import (
	"fmt"
	"regexp"
	"slices"
	"strings"

	"turnpike/api"
	"turnpike/chunk"
	"turnpike/field"
	"turnpike/target"
)

// The words of the chapter as patterns over bytes that stand for runes of the same number.
var (
	methodSigns = regexp.MustCompile("\\A[!#$%&'*+.^_`|~0-9A-Za-z-]*")
	targetSigns = regexp.MustCompile(`\A[\x21-\x7e]*`)
	versionEnd  = regexp.MustCompile(`\AHTTP/([0-9])\.([0-9])\r\n\z`)
	lineEnds    = regexp.MustCompile(`\A(?:\r\n)*`)
)

// runes is a text in which each byte is the rune of its number: patterns count them one by one then.
func runes(s string) string {
	var b strings.Builder
	for _, c := range []byte(s) {
		b.WriteRune(rune(c))
	}
	return b.String()
}

// front is how many bytes at the front of a text a pattern takes. (It takes none beyond 127, so runes of what it took are bytes.)
func front(pattern *regexp.Regexp, s string) int { return len(pattern.FindString(runes(s))) }

// outcome is what Whole answers.
type outcome struct {
	request api.Request
	n       int
	fault   api.Fault
	kind    int
}

func sameRequest(a, b api.Request) bool {
	return a.Method == b.Method && a.Target == b.Target && a.Major == b.Major && a.Minor == b.Minor &&
		slices.Equal(a.Fields, b.Fields) && a.Body == b.Body && slices.Equal(a.Trailers, b.Trailers)
}

func (o outcome) equal(p outcome) bool {
	return sameRequest(o.request, p.request) && o.n == p.n && o.fault == p.fault && o.kind == p.kind
}

func (o outcome) String() string {
	return fmt.Sprintf("{%s, %d taken, fault %d %d at %d, kind %d}", show(o.request), o.n, o.fault.Status, int(o.fault.Err), o.fault.At, o.kind)
}

func show(r api.Request) string {
	return fmt.Sprintf("%q %.60q %d.%d %.300q body %.60q of %d, trailers %.300q", r.Method, r.Target, r.Major, r.Minor, r.Fields, r.Body, len(r.Body), r.Trailers)
}

func more(s string) outcome { return outcome{n: len(s), kind: api.ParseMore} }

// failed is a fault that is met at the byte with that place, and told of it.
func failed(status int, err api.Errno, place int) outcome { return failedOf(status, err, place, place) }

func failedOf(status int, err api.Errno, met, told int) outcome {
	return outcome{n: met + 1, fault: api.Fault{Status: status, Err: err, At: told}, kind: api.ParseFault}
}

// modelWhole is 11.2 by the chapter's words: it goes from word to word of the whole text, looks ahead for their ends, and keeps no state. Limits are right.
func modelWhole(l api.Limits, s string) outcome {
	at := front(lineEnds, s)
	if rest := s[at:]; rest == "" || rest == "\r" {
		return more(s)
	} else if rest[0] == '\r' {
		return failed(400, api.ErrLine, at+1)
	}
	n := front(methodSigns, s[at:])
	switch {
	case n > 24:
		return failed(501, api.ErrMethod, at+24)
	case at+n == len(s):
		return more(s)
	case n == 0 || s[at+n] != ' ':
		return failed(400, api.ErrMethod, at+n)
	}
	r := api.Request{Method: s[at : at+n]}
	at += n + 1
	n = front(targetSigns, s[at:])
	switch {
	case n > l.Target:
		return failed(414, api.ErrLong, at+l.Target)
	case at+n == len(s):
		return more(s)
	case n == 0 || s[at+n] != ' ':
		return failed(400, api.ErrLine, at+n)
	}
	r.Target = s[at : at+n]
	at += n + 1
	const form = "HTTP/1.1\r\n"
	for n := range form {
		if at+n == len(s) {
			return more(s)
		}
		if !versionEnd.MatchString(runes(s[at:at+n+1]) + form[n+1:]) {
			return failed(400, api.ErrLine, at+n)
		}
	}
	version := s[at+5 : at+8]
	at += len(form)
	if version != "1.0" && version != "1.1" {
		return failed(505, api.ErrVersion, at-1)
	}
	r.Major, r.Minor = 1, map[string]int{"1.0": 0, "1.1": 1}[version]
	if _, _, err := target.Parse(r.Method, r.Target); err != api.OK {
		return failed(400, err, at-1)
	}
	return modelFields(l, s, r, at)
}

// modelFields goes on behind a request's line.
func modelFields(l api.Limits, s string, r api.Request, at int) outcome {
	room, beyond := s, more(s)
	if len(s) > at+l.Head {
		room, beyond = s[:at+l.Head], failed(431, api.ErrFields, at+l.Head)
	}
	for {
		end := strings.IndexAny(room[at:], "\r\n")
		if end < 0 {
			return beyond
		}
		end += at
		switch {
		case room[end] == '\n':
			return failed(400, api.ErrLine, end)
		case end+1 == len(room):
			return beyond
		case room[end+1] != '\n':
			return failed(400, api.ErrLine, end+1)
		case end == at:
			return modelBody(l, s, r, end+2)
		case len(r.Fields) == l.Fields:
			return failed(431, api.ErrFields, end+1)
		}
		f, place, err := field.ParseLine(room[at:end])
		if err != api.OK {
			return failedOf(400, err, end+1, at+place)
		}
		r.Fields = append(r.Fields, f)
		at = end + 2
	}
}

// modelBody goes on behind the empty line.
func modelBody(l api.Limits, s string, r api.Request, at int) outcome {
	old := r.Minor == 0
	framing, err := field.Framing(r.Fields, old)
	if err == api.ErrCodings {
		return failed(501, err, at-1)
	} else if err != api.OK {
		return failed(400, err, at-1)
	}
	host, _, err := field.Host(r.Fields, old)
	if err != api.OK {
		return failed(400, err, at-1)
	}
	if _, _, err = target.Authority(host); host != "" && err != api.OK {
		return failed(400, err, at-1)
	}
	if field.All(r.Fields, "expect") != nil {
		tokens, err := field.Tokens(r.Fields, "expect")
		if err != api.OK || len(tokens) != 1 || tokens[0] != "100-continue" {
			return failed(417, api.ErrExpect, at-1)
		}
	}
	switch {
	case framing.Length > l.Body:
		return failed(413, api.ErrBody, at-1)
	case framing.Kind != api.FrameChunked && len(s) < at+framing.Length:
		return more(s)
	case framing.Kind != api.FrameChunked:
		r.Body = s[at : at+framing.Length]
		return outcome{request: r, n: at + framing.Length, kind: api.ParseDone}
	}
	body, trailers, n, err := chunk.Decode(s[at:], l.Body, l.Head, l.Fields)
	switch err {
	case api.OK:
		r.Body, r.Trailers = body, trailers
		return outcome{request: r, n: at + n, kind: api.ParseDone}
	case api.ErrOpen:
		return more(s)
	case api.ErrMuch:
		return failed(413, err, at+n)
	case api.ErrTrailers:
		return failed(431, err, at+n)
	}
	return failed(400, err, at+n)
}

// said is what a parser says of itself.
type said struct {
	state, used                int
	head, request              api.Request
	hasHead, hasRequest, waits bool
	fault                      api.Fault
	hasFault                   bool
}

func (a said) equal(b said) bool {
	return a.state == b.state && a.used == b.used && a.hasHead == b.hasHead && a.hasRequest == b.hasRequest && a.waits == b.waits &&
		a.fault == b.fault && a.hasFault == b.hasFault && sameRequest(a.head, b.head) && sameRequest(a.request, b.request)
}

func (a said) String() string {
	return fmt.Sprintf("{state %d, %d used, waits %v, head %v %s, request %v %s, fault %v %v}", a.state, a.used, a.waits, a.hasHead, show(a.head), a.hasRequest, show(a.request), a.hasFault, a.fault)
}

// modelSaid is 11.4 to 11.6 of a parser that was fed a text: by what Whole of it says, and by where its lines end.
func modelSaid(l api.Limits, s string) said {
	o := modelWhole(l, s)
	a := said{used: o.n}
	switch o.kind {
	case api.ParseDone:
		a.state = api.StateDone
		a.request, a.hasRequest = o.request, true
		a.head, a.hasHead = o.request, true
		a.head.Body, a.head.Trailers = "", nil
		return a
	case api.ParseFault:
		a.state = api.StateFault
		a.fault, a.hasFault = o.fault, true
		return a
	}
	rest := s[front(lineEnds, s):]
	line, behind, ended := strings.Cut(rest, "\r\n")
	switch {
	case rest == "" || rest == "\r":
		a.state = api.StateStart
		return a
	case !ended:
		a.state = api.StateLine
		return a
	}
	lines, body, ended := strings.Cut("\r\n"+behind, "\r\n\r\n")
	if !ended {
		a.state = api.StateFields
		return a
	}
	a.state, a.hasHead = api.StateBody, true
	words := strings.Split(line, " ")
	a.head = api.Request{Method: words[0], Target: words[1], Major: 1, Minor: int(line[len(line)-1] - '0')}
	a.head.Fields, _, _ = field.Parse(strings.TrimPrefix(lines+"\r\n", "\r\n"))
	a.waits = body == "" && a.head.Minor == 1 && field.All(a.head.Fields, "EXPECT") != nil
	return a
}

// lists goes over all lists of at most so many elements, each of them out of one list.
func lists[T any](elements []T, most int) func(yield func([]T) bool) {
	return func(yield func([]T) bool) {
		level := [][]T{nil}
		for n := 0; ; n++ {
			for _, l := range level {
				if !yield(slices.Clone(l)) {
					return
				}
			}
			if n == most {
				return
			}
			var next [][]T
			for _, l := range level {
				for _, e := range elements {
					next = append(next, append(slices.Clip(l), e))
				}
			}
			level = next
		}
	}
}

// texts goes over all texts of at most so many pieces, each of them out of the list.
func texts(pieces []string, most int) func(yield func(string) bool) {
	return func(yield func(string) bool) {
		for l := range lists(pieces, most) {
			if !yield(strings.Join(l, "")) {
				return
			}
		}
	}
}

// edits goes over all texts that come of one by a byte that is left out, put in, or put in the place of another.
func edits(s string, bytes string) func(yield func(string) bool) {
	return func(yield func(string) bool) {
		for i := range len(s) + 1 {
			if i < len(s) && !yield(s[:i]+s[i+1:]) {
				return
			}
			for _, c := range []byte(bytes) {
				if !yield(s[:i]+string([]byte{c})+s[i:]) || i < len(s) && !yield(s[:i]+string([]byte{c})+s[i+1:]) {
					return
				}
			}
		}
	}
}

// everyByte is all bytes, one behind the other.
func everyByte() string {
	var b []byte
	for c := range 256 {
		b = append(b, byte(c))
	}
	return string(b)
}

// lines is a text with line ends in the place of |.
func lines(s string) string { return strings.ReplaceAll(s, "|", "\r\n") }
