package field_test

import (
	"regexp"
	"slices"
	"strconv"
	"strings"

	"turnpike/api"
)

// The words of the chapter as patterns over bytes that stand for runes of the same number, apart from the program's own.
var (
	wholeToken = regexp.MustCompile("\\A[A-Za-z0-9!#$%&'*+.^_`|~-]+\\z")
	wholeName  = regexp.MustCompile("\\A[A-Za-z0-9!#$%&'*+.^_`|~-]{1,128}\\z")
	tokenFront = regexp.MustCompile("\\A[A-Za-z0-9!#$%&'*+.^_`|~-]*")
	fieldFront = regexp.MustCompile(`\A[\t -~\x{80}-\x{ff}]*`)
	wholeList  = regexp.MustCompile(`\A(?s:[^"]|"(?:\\[\t -~]|[\t -!#-\[\]-~])*")*\z`)
	listPart   = regexp.MustCompile(`(?s:[^",]|"(?:\\[\t -~]|[\t -!#-\[\]-~])*")+`)
)

// texts goes over all texts of at most so many pieces, each of them out of the list.
func texts(pieces []string, most int) func(yield func(string) bool) {
	return func(yield func(string) bool) {
		level := []string{""}
		for n := 0; ; n++ {
			for _, s := range level {
				if !yield(s) {
					return
				}
			}
			if n == most {
				return
			}
			var next []string
			for _, s := range level {
				for _, p := range pieces {
					next = append(next, s+p)
				}
			}
			level = next
		}
	}
}

// fieldLists goes over all lists of at most so many fields with these names and values.
func fieldLists(names, values []string, most int) func(yield func([]api.Field) bool) {
	return func(yield func([]api.Field) bool) {
		level := [][]api.Field{nil}
		for n := 0; ; n++ {
			for _, l := range level {
				if !yield(slices.Clone(l)) {
					return
				}
			}
			if n == most {
				return
			}
			var next [][]api.Field
			for _, l := range level {
				for _, name := range names {
					for _, value := range values {
						next = append(next, append(slices.Clip(l), api.Field{Name: name, Value: value}))
					}
				}
			}
			level = next
		}
	}
}

// runes is a text in which each byte is the rune of its number.
func runes(s string) string {
	var b strings.Builder
	for _, c := range []byte(s) {
		b.WriteRune(rune(c))
	}
	return b.String()
}

// front is how many bytes of a text a pattern matches at its front.
func front(p *regexp.Regexp, s string) int { return len([]rune(p.FindString(runes(s)))) }

func small(s string) string {
	return string(slices.Collect(func(yield func(byte) bool) {
		for _, c := range []byte(s) {
			if strings.IndexByte("ABCDEFGHIJKLMNOPQRSTUVWXYZ", c) >= 0 {
				c += 32
			}
			if !yield(c) {
				return
			}
		}
	}))
}

type readLine struct {
	f   api.Field
	at  int
	err api.Errno
}

func modelLine(line string) readLine {
	at := strings.Index(line, ":")
	if strings.HasPrefix(line, " ") || strings.HasPrefix(line, "\t") {
		return readLine{err: api.ErrFolded}
	}
	if at < 0 {
		return readLine{at: len(line), err: api.ErrColon}
	}
	if n := front(tokenFront, line[:at]); n == 0 || n < at || n > 128 {
		return readLine{at: min(n, 128), err: api.ErrName}
	}
	rest := line[at+1:]
	if n := front(fieldFront, rest); n < len(rest) {
		return readLine{at: at + 1 + n, err: api.ErrValue}
	}
	left := strings.TrimLeft(rest, " \t")
	value := strings.TrimRight(left, " \t")
	if len(value) > 8192 {
		return readLine{at: len(line) - len(left) + 8192, err: api.ErrValue}
	}
	return readLine{f: api.Field{Name: line[:at], Value: value}}
}

func modelParse(text string) ([]api.Field, int, api.Errno) {
	var l []api.Field
	lines := strings.SplitAfter(text, "\r\n")
	place := 0
	for i, line := range lines {
		if i == len(lines)-1 && line == "" {
			break
		}
		if !strings.HasSuffix(line, "\r\n") {
			return nil, len(text), api.ErrBreak
		}
		if i == 100 {
			return nil, place, api.ErrMany
		}
		read := modelLine(line[:len(line)-2])
		if read.err != api.OK {
			return nil, place + read.at, read.err
		}
		l = append(l, read.f)
		place += len(line)
	}
	return l, 0, api.OK
}

func modelAll(l []api.Field, name string) []string {
	var out []string
	for _, f := range l {
		if small(f.Name) == small(name) {
			out = append(out, f.Value)
		}
	}
	return out
}

// modelElements is the elements of values, of bytes below 127.
func modelElements(values []string) ([]string, bool) {
	var out []string
	for _, value := range values {
		if !wholeList.MatchString(value) {
			return nil, false
		}
		for _, part := range listPart.FindAllString(value, -1) {
			if part = strings.Trim(part, " \t"); part != "" {
				out = append(out, part)
			}
		}
	}
	return out, true
}

func modelTokens(values []string) ([]string, api.Errno) {
	elements, ok := modelElements(values)
	if !ok {
		return nil, api.ErrList
	}
	for i, e := range elements {
		if !wholeToken.MatchString(e) {
			return nil, api.ErrToken
		}
		elements[i] = small(e)
	}
	return elements, api.OK
}

func modelLength(l []api.Field) (int, bool, api.Errno) {
	values := modelAll(l, "content-length")
	if len(values) == 0 {
		return 0, false, api.OK
	}
	elements, _ := modelElements(values)
	numbers := map[uint64]bool{}
	for _, e := range elements {
		n, err := strconv.ParseUint(e, 10, 64)
		if err != nil || n > 1<<40 {
			return 0, false, api.ErrLengths
		}
		numbers[n] = true
	}
	if len(numbers) != 1 {
		return 0, false, api.ErrLengths
	}
	for n := range numbers {
		return int(n), true, api.OK
	}
	return 0, false, api.OK
}

func modelFraming(l []api.Field, old bool) (api.Framing, api.Errno) {
	values := modelAll(l, "transfer-encoding")
	codings, err := modelTokens(values)
	if len(values) > 0 && (old || err != api.OK || len(codings) != 1 || codings[0] != "chunked") {
		return api.Framing{}, api.ErrCodings
	}
	n, sized, err := modelLength(l)
	if err != api.OK {
		return api.Framing{}, err
	}
	if len(values) > 0 && sized {
		return api.Framing{}, api.ErrBoth
	}
	if len(values) > 0 {
		return api.Framing{Kind: 2}, api.OK
	}
	if sized {
		return api.Framing{Kind: 1, Length: n}, api.OK
	}
	return api.Framing{}, api.OK
}

func modelPersist(l []api.Field, old bool) bool {
	tokens, err := modelTokens(modelAll(l, "connection"))
	if err != api.OK || slices.Contains(tokens, "close") {
		return false
	}
	return !old || slices.Contains(tokens, "keep-alive")
}

func modelOnward(l []api.Field) []api.Field {
	gone := []string{"connection", "keep-alive", "proxy-connection", "te", "trailer", "transfer-encoding", "upgrade"}
	tokens, err := modelTokens(modelAll(l, "connection"))
	if err == api.OK {
		gone = append(gone, tokens...)
	}
	var out []api.Field
	for _, f := range l {
		if !slices.Contains(gone, small(f.Name)) {
			out = append(out, f)
		}
	}
	return out
}
