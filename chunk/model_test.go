package chunk_test

import (
	"fmt"
	"math/big"
	"regexp"
	"slices"
	"strconv"
	"strings"

	"turnpike/api"
)

// The words of the chapters as patterns over bytes that stand for runes of the same number, apart from the program's own.
const (
	tokenSign  = "[!#$%&'*+.^_`|~0-9A-Za-z-]"
	fieldByte  = `[\t -~\x{80}-\x{ff}]`
	quotedText = `"(?:[\t !#-\[\]-~\x{80}-\x{ff}]|\\` + fieldByte + `)*"`
	paramText  = `(` + tokenSign + `+)(=(?:` + tokenSign + `+|` + quotedText + `))?`
)

var (
	sizeLine    = regexp.MustCompile(`\A([0-9A-Fa-f]+)((?:[ \t]*;[ \t]*(?:` + paramText + `)?)*)[ \t]*\z`)
	oneParam    = regexp.MustCompile(paramText)
	quotedPair  = regexp.MustCompile(`(?s)\\(.)`)
	trailerLine = regexp.MustCompile(`\A(` + tokenSign + `{1,128}):[ \t]*(|[!-~\x{80}-\x{ff}](?:` + fieldByte + `*[!-~\x{80}-\x{ff}])?)[ \t]*\z`)
	noTrailer   = regexp.MustCompile(`\A(?i:Connection|Content-Encoding|Content-Length|Content-Range|Content-Type|Expect|Host|Keep-Alive|TE|Trailer|Transfer-Encoding|Upgrade)\z`)
	fieldName   = regexp.MustCompile(`\A` + tokenSign + `{1,128}\z`)
)

// The numbers as the chapter writes them.
const (
	maxSizeLine = 256
	maxChunk    = 1099511627776
	maxValue    = 8192
)

// runes is a text in which each byte is the rune of its number, and back is the text of it.
func runes(s string) string {
	var b strings.Builder
	for _, c := range []byte(s) {
		b.WriteRune(rune(c))
	}
	return b.String()
}

func back(s string) string {
	var b []byte
	for _, r := range s {
		b = append(b, byte(r))
	}
	return string(b)
}

// modelSize is ParseSize of 10.1, sentence by sentence.
func modelSize(line string) (int, []api.Param, api.Errno) {
	found := sizeLine.FindStringSubmatch(runes(line))
	if found == nil || len(line) > maxSizeLine-2 {
		return 0, nil, api.ErrChunk
	}
	n, _ := new(big.Int).SetString(found[1], 16)
	if n.Cmp(big.NewInt(maxChunk)) > 0 {
		return 0, nil, api.ErrMuch
	}
	var l []api.Param
	for _, p := range oneParam.FindAllStringSubmatch(found[2], -1) {
		value, has := strings.CutPrefix(p[2], "=")
		if strings.HasPrefix(value, `"`) {
			value = quotedPair.ReplaceAllString(value[1:len(value)-1], "$1")
		}
		l = append(l, api.Param{Name: back(p[1]), Value: back(value), Has: has})
	}
	return int(n.Int64()), l, api.OK
}

// modelTrailer is a trailer's line, if it is one.
func modelTrailer(line string) (api.Field, bool) {
	found := trailerLine.FindStringSubmatch(runes(line))
	if found == nil || len(back(found[2])) > maxValue || noTrailer.MatchString(found[1]) {
		return api.Field{}, false
	}
	return api.Field{Name: back(found[1]), Value: back(found[2])}, true
}

// outcome is what a decoder tells: how many bytes were taken, and what it has then.
type outcome struct {
	total    int
	err      api.Errno
	done     bool
	body     string
	trailers []api.Field
}

func (o outcome) equal(p outcome) bool {
	return o.total == p.total && o.err == p.err && o.done == p.done && o.body == p.body && slices.Equal(o.trailers, p.trailers)
}

func (o outcome) String() string {
	return fmt.Sprintf("{%d taken, error %d, done %v, body %.60q of %d, %d trailers}", o.total, int(o.err), o.done, o.body, len(o.body), len(o.trailers))
}

// modelDecode is 10.3 of a whole text: it looks ahead for the ends of lines and chunks, and keeps no state.
func modelDecode(s string, most, room, fields int) outcome {
	var o outcome
	failed := func(place int, err api.Errno) outcome {
		o.total, o.err = place+1, err
		return o
	}
	open := func() outcome {
		o.total = len(s)
		return o
	}
	at := 0
	for {
		end := strings.IndexByte(s[at:], '\n')
		switch {
		case end < 0 && len(s)-at < maxSizeLine:
			return open()
		case end < 0 || end >= maxSizeLine:
			return failed(at+maxSizeLine-1, api.ErrChunk)
		case end == 0 || s[at+end-1] != '\r':
			return failed(at+end, api.ErrChunk)
		}
		size, _, err := modelSize(s[at : at+end-1])
		switch {
		case err != api.OK:
			return failed(at+end, err)
		case size > most-len(o.body):
			return failed(at+end, api.ErrMuch)
		}
		at += end + 1
		if size == 0 {
			break
		}
		if len(s)-at < size {
			o.body += s[at:]
			return open()
		}
		o.body += s[at : at+size]
		at += size
		for _, c := range []byte("\r\n") {
			if at == len(s) {
				return open()
			}
			if s[at] != c {
				return failed(at, api.ErrChunk)
			}
			at++
		}
	}
	section, beyond := s[at:], false
	if len(section) > room {
		section, beyond = section[:room], true
	}
	for {
		line, rest, ended := strings.Cut(section, "\n")
		switch {
		case !ended && beyond:
			return failed(at+len(section), api.ErrTrailers)
		case !ended:
			return open()
		}
		section = rest
		at += len(line) + 1
		line, right := strings.CutSuffix(line, "\r")
		if !right {
			return failed(at-1, api.ErrTrailer)
		}
		if line == "" {
			o.total, o.done = at, true
			return o
		}
		if len(o.trailers) == fields {
			return failed(at-1, api.ErrTrailers)
		}
		f, ok := modelTrailer(line)
		if !ok {
			return failed(at-1, api.ErrTrailer)
		}
		o.trailers = append(o.trailers, f)
	}
}

// modelEncode is the body in chunks by the words of 10.7, of arguments that are right.
func modelEncode(body string, sizes []int, trailers []api.Field) string {
	s := ""
	for _, n := range append(slices.Clone(sizes), max(1, len(body))) {
		piece := body[:min(n, len(body))]
		body = body[len(piece):]
		if piece != "" {
			s += strconv.FormatInt(int64(len(piece)), 16) + "\r\n" + piece + "\r\n"
		}
	}
	s += "0\r\n"
	for _, f := range trailers {
		s += strings.TrimSuffix(f.Name+": "+f.Value, " ") + "\r\n"
	}
	return s + "\r\n"
}

// lists goes over all lists of at most so many elements, each of them out of one list.
func lists[T any](elements []T, most int) func(yield func([]T) bool) {
	return func(yield func([]T) bool) {
		level := [][]T{nil}
		for n := 0; ; n++ {
			for _, l := range level {
				if !yield(slices.Clone(l)) {
					return
				}
			}
			if n == most {
				return
			}
			var next [][]T
			for _, l := range level {
				for _, e := range elements {
					next = append(next, append(slices.Clip(l), e))
				}
			}
			level = next
		}
	}
}

// texts goes over all texts of at most so many pieces, each of them out of the list.
func texts(pieces []string, most int) func(yield func(string) bool) {
	return func(yield func(string) bool) {
		for l := range lists(pieces, most) {
			if !yield(strings.Join(l, "")) {
				return
			}
		}
	}
}

// edits goes over all texts that come of one by a byte that is left out, put in, or put in the place of another.
func edits(s string, bytes string) func(yield func(string) bool) {
	return func(yield func(string) bool) {
		for i := range len(s) + 1 {
			if i < len(s) && !yield(s[:i]+s[i+1:]) {
				return
			}
			for _, c := range []byte(bytes) {
				if !yield(s[:i]+string([]byte{c})+s[i:]) || i < len(s) && !yield(s[:i]+string([]byte{c})+s[i+1:]) {
					return
				}
			}
		}
	}
}

// everyByte is all bytes, one behind the other.
func everyByte() string {
	var b []byte
	for c := range 256 {
		b = append(b, byte(c))
	}
	return string(b)
}

// lines is a text with line ends in the place of |.
func lines(s string) string { return strings.ReplaceAll(s, "|", "\r\n") }
