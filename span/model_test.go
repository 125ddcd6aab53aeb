package span_test

import (
	"math/big"
	"regexp"
	"slices"
	"strconv"
	"strings"

	"turnpike/api"
)

// The words of the chapter as patterns over bytes that stand for runes of the same number, apart from the program's own.
const (
	fieldBytes = `[\t -~\x{80}-\x{ff}]*`
	number     = `(0|[1-9][0-9]*)`
)

var (
	rangeHeader = regexp.MustCompile(`\A(?i:bytes)=([^"]*)\z`)
	element     = regexp.MustCompile(`\A([0-9]*)-([0-9]*)\z`)
	toldSpan    = regexp.MustCompile(`\Abytes ` + number + `-` + number + `/` + number + `\z`)
	toldNone    = regexp.MustCompile(`\Abytes \*/` + number + `\z`)
	toldOpen    = regexp.MustCompile(`\Abytes ` + number + `-` + number + `/\*\z`)
	boundaryAll = regexp.MustCompile(`\A[A-Za-z0-9'()+_,./:=?-]{1,70}\z`)
	mediaLine   = regexp.MustCompile(`\AContent-Type: (` + fieldBytes + `)\r\n`)
	mediaBegun  = regexp.MustCompile(`\A(?:` + beginnings("Content-Type: ") + `|Content-Type: ` + fieldBytes + `\r?)\z`)
	rangeLine   = regexp.MustCompile(`\AContent-Range: (` + fieldBytes + `)\r\n`)
	rangeBegun  = regexp.MustCompile(`\A(?:` + beginnings("Content-Range: ") + `|Content-Range: ` + fieldBytes + `\r?)\z`)
	emptyLine   = regexp.MustCompile(`\A\r\n()`)
	emptyBegun  = regexp.MustCompile(`\A\r?\z`)
)

var greatest = new(big.Int).Lsh(big.NewInt(1), 62)

// beginnings is a pattern of all that a text begins with, but the whole.
func beginnings(s string) string {
	var l []string
	for n := range len(s) {
		l = append(l, regexp.QuoteMeta(s[:n]))
	}
	return strings.Join(l, "|")
}

// texts goes over all texts of at most so many pieces, each of them out of the list.
func texts(pieces []string, most int) func(yield func(string) bool) {
	return func(yield func(string) bool) {
		for l := range lists(pieces, most) {
			if !yield(strings.Join(l, "")) {
				return
			}
		}
	}
}

// lists goes over all lists of at most so many elements, each of them out of one list.
func lists[T any](elements []T, most int) func(yield func([]T) bool) {
	return func(yield func([]T) bool) {
		level := [][]T{nil}
		for n := 0; ; n++ {
			for _, l := range level {
				if !yield(slices.Clone(l)) {
					return
				}
			}
			if n == most {
				return
			}
			var next [][]T
			for _, l := range level {
				for _, e := range elements {
					next = append(next, append(slices.Clip(l), e))
				}
			}
			level = next
		}
	}
}

// edits goes over all texts that come of one by a byte that is left out, put in, or put in the place of another.
func edits(s string, bytes string) func(yield func(string) bool) {
	return func(yield func(string) bool) {
		for i := range len(s) + 1 {
			if i < len(s) && !yield(s[:i]+s[i+1:]) {
				return
			}
			for _, c := range []byte(bytes) {
				if !yield(s[:i]+string([]byte{c})+s[i:]) || i < len(s) && !yield(s[:i]+string([]byte{c})+s[i+1:]) {
					return
				}
			}
		}
	}
}

// runes is a text in which each byte is the rune of its number, and back is the text of it.
func runes(s string) string {
	var b strings.Builder
	for _, c := range []byte(s) {
		b.WriteRune(rune(c))
	}
	return b.String()
}

func back(s string) string {
	var b []byte
	for _, r := range s {
		b = append(b, byte(r))
	}
	return string(b)
}

// counted is the number that digits say, by numbers without an end; what is above 2^62 counts as that.
func counted(s string) int {
	n, _ := new(big.Int).SetString(s, 10)
	if n.Cmp(greatest) > 0 {
		n = greatest
	}
	return int(n.Int64())
}

// modelParse is 9.1, sentence by sentence; of texts without quotes.
func modelParse(s string, size int) ([]api.Span, api.Errno) {
	if size < 0 {
		return nil, api.ErrArg
	}
	header := rangeHeader.FindStringSubmatch(runes(s))
	if header == nil {
		return nil, api.ErrUnit
	}
	var l []api.Span
	some := false
	for _, e := range strings.Split(header[1], ",") {
		if e = strings.Trim(e, " \t"); e == "" {
			continue
		}
		some = true
		found := element.FindStringSubmatch(e)
		switch {
		case found == nil || found[1] == "" && found[2] == "":
			return nil, api.ErrUnit
		case found[1] == "":
			if many := counted(found[2]); size > 0 && many > 0 {
				l = append(l, api.Span{From: size - min(many, size), To: size})
			}
		case found[2] == "":
			if first := counted(found[1]); first < size {
				l = append(l, api.Span{From: first, To: size})
			}
		default:
			first, last := counted(found[1]), counted(found[2])
			if first > last {
				return nil, api.ErrUnit
			}
			if first < size {
				l = append(l, api.Span{From: first, To: min(last, size-1) + 1})
			}
		}
	}
	if !some {
		return nil, api.ErrUnit
	}
	if len(l) == 0 {
		return nil, api.ErrSpan
	}
	return l, api.OK
}

// modelSpan tells whether x is a span of a body of a size.
func modelSpan(x api.Span, size int) bool { return 0 <= x.From && x.From < x.To && x.To <= size }

// modelMerge marks each byte from -8 to 8, and reads the marks.
func modelMerge(l []api.Span) []api.Span {
	const shift = 8
	var marks [2*shift + 2]bool
	for _, x := range l {
		for i := x.From; i < x.To; i++ {
			marks[i+shift] = true
		}
	}
	var out []api.Span
	for i := range marks {
		if marks[i] && (i == 0 || !marks[i-1]) {
			out = append(out, api.Span{From: i - shift})
		}
		if !marks[i] && i > 0 && marks[i-1] {
			out[len(out)-1].To = i - shift
		}
	}
	return out
}

// modelTold is 9.5, sentence by sentence.
func modelTold(s string) (api.Span, int, api.Errno) {
	none := func(found []string) bool {
		for _, digits := range found[1:] {
			if n, _ := new(big.Int).SetString(digits, 10); n.Cmp(greatest) > 0 {
				return true
			}
		}
		return false
	}
	r := runes(s)
	if found := toldSpan.FindStringSubmatch(r); found != nil && !none(found) {
		x, size := api.Span{From: counted(found[1]), To: counted(found[2]) + 1}, counted(found[3])
		if modelSpan(x, size) {
			return x, size, api.OK
		}
	}
	if found := toldNone.FindStringSubmatch(r); found != nil && !none(found) {
		return api.Span{}, counted(found[1]), api.OK
	}
	if found := toldOpen.FindStringSubmatch(r); found != nil && !none(found) {
		if x := (api.Span{From: counted(found[1]), To: counted(found[2]) + 1}); x.From < x.To {
			return x, -1, api.OK
		}
	}
	return api.Span{}, 0, api.ErrUnit
}

// modelBoundary asks of one number behind the other.
func modelBoundary(body string) string {
	for n := 0; ; n++ {
		if b := "part" + strconv.Itoa(n); !strings.Contains(body, "--"+b) {
			return b
		}
	}
}

// modelParts is the body in parts by the words of the chapter, of arguments that are right.
func modelParts(boundary, media, body string, l []api.Span) string {
	s := ""
	for _, x := range l {
		s += "|--" + boundary + "|Content-Type: \x00|Content-Range: bytes " + strconv.Itoa(x.From) + "-" + strconv.Itoa(x.To-1) + "/" + strconv.Itoa(len(body)) + "||\x01" + strconv.Itoa(x.From) + " " + strconv.Itoa(x.To) + "\x02"
	}
	s = lines(s + "|--" + boundary + "--|")
	s = strings.ReplaceAll(s, "\x00", media)
	return regexp.MustCompile(`\x01(\d+) (\d+)\x02`).ReplaceAllStringFunc(s, func(found string) string {
		from, to, _ := strings.Cut(found[1:len(found)-1], " ")
		a, _ := strconv.Atoi(from)
		b, _ := strconv.Atoi(to)
		return body[a:b]
	})
}

// lines is a text with line ends in the place of |.
func lines(s string) string { return strings.ReplaceAll(s, "|", "\r\n") }

// modelPieces is 9.8 as a row of patterns, each with one for what has not ended.
func modelPieces(boundary, s string) ([]api.Piece, int, api.Errno) {
	if !boundaryAll.MatchString(runes(boundary)) {
		return nil, 0, api.ErrMark
	}
	open, end := lines("|--"+boundary+"|"), lines("|--"+boundary+"--|")
	var l []api.Piece
	at := 0
	for {
		rest := s[at:]
		if len(l) > 0 && rest == end {
			return l, 0, api.OK
		}
		if len(l) > 0 && strings.HasPrefix(rest, end) {
			return nil, at + len(end), api.ErrMark
		}
		if !strings.HasPrefix(rest, open) {
			if strings.HasPrefix(open, rest) || len(l) > 0 && strings.HasPrefix(end, rest) {
				return nil, len(s), api.ErrShort
			}
			return nil, at, api.ErrMark
		}
		at += len(open)
		var p api.Piece
		for _, step := range []struct {
			whole, begun *regexp.Regexp
			fit          func(string) bool
		}{
			{mediaLine, mediaBegun, func(v string) bool { p.Media = v; return true }},
			{rangeLine, rangeBegun, func(v string) bool {
				var err api.Errno
				p.Span, p.Size, err = modelTold(v)
				return err == api.OK && p.Span.From < p.Span.To
			}},
			{emptyLine, emptyBegun, func(string) bool { return true }},
		} {
			r := runes(s[at:])
			found := step.whole.FindStringSubmatch(r)
			if found == nil && step.begun.MatchString(r) {
				return nil, len(s), api.ErrShort
			}
			if found == nil || !step.fit(back(found[1])) {
				return nil, at, api.ErrPiece
			}
			at += len([]rune(found[0]))
		}
		n := p.Span.To - p.Span.From
		if len(s)-at < n {
			return nil, len(s), api.ErrShort
		}
		p.Body = s[at : at+n]
		at += n
		l = append(l, p)
	}
}
