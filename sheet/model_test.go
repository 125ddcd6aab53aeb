package sheet_test

import (
	"fmt"
	"net/url"
	"regexp"
	"slices"
	"strconv"
	"strings"

	"turnpike/api"
	"turnpike/field"
)

// The words of the chapter as patterns over bytes that stand for runes of the same number, apart from the program's own.
const (
	tokenPattern  = "[!#$%&'*+.^_`|~0-9A-Za-z-]+"
	quotedPattern = `"(?:[\t !#-\[\]-~\x{80}-\x{ff}]|\\[\t -~\x{80}-\x{ff}])*"`
	paramPattern  = `(` + tokenPattern + `)=(` + tokenPattern + `|` + quotedPattern + `)`
)

var (
	boundaryAll    = regexp.MustCompile(`\A[A-Za-z0-9'()+_,./:=?-]{1,70}\z`)
	dispositionAll = regexp.MustCompile(`\A[ \t]*(` + tokenPattern + `)((?:[ \t]*;[ \t]*(?:` + paramPattern + `)?)*)[ \t]*\z`)
	paramEach      = regexp.MustCompile(`;[ \t]*` + paramPattern)
	escaped        = regexp.MustCompile(`\\(.)`)
	percentWrong   = regexp.MustCompile(`%(?:[^0-9A-Fa-f]|[0-9A-Fa-f][^0-9A-Fa-f]|[0-9A-Fa-f]?\z)`)
	openEnd        = regexp.MustCompile(`\A[ \t]*\r\n`)
	openBegun      = regexp.MustCompile(`\A[ \t]*\r?\z`)
	lastEnd        = regexp.MustCompile(`\A--(?:\r\n|\z)`)
	lastBegun      = regexp.MustCompile(`\A(?:-?|--\r)\z`)
	lineWhole      = regexp.MustCompile(`(?s)\A(.*?)\r\n`)
)

func pair(name, value string) api.Param { return api.Param{Name: name, Value: value, Has: true} }

func alone(name string) api.Param { return api.Param{Name: name} }

// show is what is told of a list that is not as it must be; not all, if it is long.
func show(l any) string { return fmt.Sprintf("%.200q", fmt.Sprintf("%+v", l)) }

// lines is a text with line ends in the place of |.
func lines(s string) string { return strings.ReplaceAll(s, "|", "\r\n") }

// allBytes is each byte once.
func allBytes() string {
	var b []byte
	for c := range 256 {
		b = append(b, byte(c))
	}
	return string(b)
}

// lists goes over all lists of at most so many elements, each of them out of one list.
func lists[T any](elements []T, most int) func(yield func([]T) bool) {
	return func(yield func([]T) bool) {
		level := [][]T{nil}
		for n := 0; ; n++ {
			for _, l := range level {
				if !yield(slices.Clone(l)) {
					return
				}
			}
			if n == most {
				return
			}
			var next [][]T
			for _, l := range level {
				for _, e := range elements {
					next = append(next, append(slices.Clip(l), e))
				}
			}
			level = next
		}
	}
}

// texts goes over all texts of at most so many pieces, each of them out of the list.
func texts(pieces []string, most int) func(yield func(string) bool) {
	return func(yield func(string) bool) {
		for l := range lists(pieces, most) {
			if !yield(strings.Join(l, "")) {
				return
			}
		}
	}
}

// edits goes over all texts that come of one by a byte that is left out, put in, or put in the place of another.
func edits(s string, bytes string) func(yield func(string) bool) {
	return func(yield func(string) bool) {
		for i := range len(s) + 1 {
			if i < len(s) && !yield(s[:i]+s[i+1:]) {
				return
			}
			for _, c := range []byte(bytes) {
				if !yield(s[:i]+string([]byte{c})+s[i:]) || i < len(s) && !yield(s[:i]+string([]byte{c})+s[i+1:]) {
					return
				}
			}
		}
	}
}

// runes is a text in which each byte is the rune of its number, and back is the text of it.
func runes(s string) string {
	var b strings.Builder
	for _, c := range []byte(s) {
		b.WriteRune(rune(c))
	}
	return b.String()
}

func back(s string) string {
	var b []byte
	for _, r := range s {
		b = append(b, byte(r))
	}
	return string(b)
}

// modelPairs is the first half of 15.1; what a text says is told by the library.
func modelPairs(s string) ([]api.Param, int, api.Errno) {
	if found := percentWrong.FindStringIndex(runes(s)); found != nil {
		return nil, len([]rune(runes(s)[:found[0]])), api.ErrPercent
	}
	var l []api.Param
	for _, piece := range strings.Split(s, "&") {
		if piece == "" {
			continue
		}
		name, value, has := strings.Cut(piece, "=")
		p := api.Param{Has: has}
		p.Name, _ = url.QueryUnescape(name)
		p.Value, _ = url.QueryUnescape(value)
		l = append(l, p)
	}
	return l, 0, api.OK
}

// modelPrinted is the form of a name or a value in the second half of 15.1.
func modelPrinted(s string) string {
	out := ""
	for _, c := range []byte(s) {
		switch {
		case 'A' <= c && c <= 'Z', 'a' <= c && c <= 'z', '0' <= c && c <= '9', c == '*', c == '-', c == '.', c == '_':
			out += string(rune(c))
		case c == ' ':
			out += "+"
		default:
			out += "%" + strings.ToUpper(strconv.FormatInt(0x100+int64(c), 16)[1:])
		}
	}
	return out
}

// modelBoundary asks of one number behind the other.
func modelBoundary(l []api.Part) string {
	for n := 0; ; n++ {
		b := "form" + strconv.Itoa(n)
		if !slices.ContainsFunc(l, func(p api.Part) bool {
			return strings.Contains(p.Body, "--"+b) || strings.Contains(p.Name, "--"+b) || strings.Contains(p.File, "--"+b) || strings.Contains(p.Media, "--"+b)
		}) {
			return b
		}
	}
}

// modelDisposition is 15.3 as a pattern.
func modelDisposition(s string) (string, []api.Param, api.Errno) {
	found := dispositionAll.FindStringSubmatch(runes(s))
	if found == nil {
		return "", nil, api.ErrPart
	}
	var l []api.Param
	for _, each := range paramEach.FindAllStringSubmatch(found[2], -1) {
		p := pair(strings.ToLower(each[1]), back(each[2]))
		if strings.HasPrefix(each[2], `"`) {
			p.Value = back(escaped.ReplaceAllString(each[2][1:len(each[2])-1], "$1"))
		}
		if slices.ContainsFunc(l, func(other api.Param) bool { return other.Name == p.Name }) {
			return "", nil, api.ErrPart
		}
		l = append(l, p)
	}
	// A parameter without a value does not come this far: the pattern has none.
	return strings.ToLower(found[1]), l, api.OK
}

// modelParse is 15.4 as a row of patterns, each held against what is left.
func modelParse(boundary, s string, most int) ([]api.Part, int, api.Errno) {
	if !boundaryAll.MatchString(runes(boundary)) {
		return nil, 0, api.ErrBoundary
	}
	if most < 1 {
		return nil, 0, api.ErrArg
	}
	mark := "--" + boundary
	var l []api.Part
	at := 0
	if !strings.HasPrefix(s, mark) {
		if at = strings.Index(s, "\r\n"+mark) + 2; at == 1 {
			return nil, len(s), api.ErrShut
		}
	}
	for {
		rest := s[at+len(mark):]
		switch {
		case len(l) > 0 && lastEnd.MatchString(rest):
			return l, 0, api.OK
		case openBegun.MatchString(rest) || len(l) > 0 && lastBegun.MatchString(rest):
			return nil, len(s), api.ErrShut
		case !openEnd.MatchString(rest):
			return nil, at + len(mark), api.ErrBoundary
		case len(l) == most:
			return nil, at, api.ErrParts
		}
		p, place, err := modelPart(mark, s, at+len(mark)+len(openEnd.FindString(rest)))
		if err != api.OK {
			return nil, place, err
		}
		l = append(l, p)
		at = place
	}
}

// modelPart is the part whose fields begin at a place, and the place of the mark behind it; or what is wrong with it, and where.
func modelPart(mark, s string, at int) (api.Part, int, api.Errno) {
	var p api.Part
	dispositions, media := 0, 0
	for {
		found := lineWhole.FindStringSubmatch(runes(s[at:]))
		if found == nil {
			return api.Part{}, len(s), api.ErrShut
		}
		line := back(found[1])
		if line == "" {
			break
		}
		f, _, err := field.ParseLine(line)
		if err != api.OK {
			return api.Part{}, at, err
		}
		switch strings.ToLower(f.Name) {
		case "content-disposition":
			dispositions++
			word, l, err := modelDisposition(f.Value)
			name := slices.IndexFunc(l, func(p api.Param) bool { return p.Name == "name" })
			if dispositions > 1 || err != api.OK || word != "form-data" || name < 0 {
				return api.Part{}, at, api.ErrPart
			}
			p.Name = l[name].Value
			if file := slices.IndexFunc(l, func(p api.Param) bool { return p.Name == "filename" }); file >= 0 {
				p.File, p.HasFile = l[file].Value, true
			}
		case "content-type":
			if media++; media > 1 {
				return api.Part{}, at, api.ErrPart
			}
			p.Media = f.Value
		}
		at += len(line) + 2
	}
	if dispositions == 0 {
		return api.Part{}, at, api.ErrPart
	}
	at += 2
	if strings.HasPrefix(s[at:], mark) {
		return api.Part{}, at, api.ErrPart
	}
	end := strings.Index(s[at:], "\r\n"+mark)
	if end < 0 {
		return api.Part{}, len(s), api.ErrShut
	}
	p.Body = s[at : at+end]
	return p, at + end + 2, api.OK
}

// modelPrint is 15.5, sentence by sentence.
func modelPrint(boundary string, l []api.Part) (string, api.Errno) {
	if !boundaryAll.MatchString(runes(boundary)) {
		return "", api.ErrBoundary
	}
	for _, p := range l {
		if strings.Contains(p.Body+"\n"+p.Name+"\n"+p.File+"\n"+p.Media, "--"+boundary) {
			return "", api.ErrBoundary
		}
	}
	if len(l) == 0 {
		return "", api.ErrParts
	}
	quote := func(s string) string {
		return `"` + strings.ReplaceAll(strings.ReplaceAll(s, `\`, `\\`), `"`, `\"`) + `"`
	}
	out := ""
	for _, p := range l {
		told := p.Name + p.File + p.Media
		wrong := strings.ContainsFunc(runes(told), func(r rune) bool { return r < ' ' && r != '\t' || r == 127 })
		disposition := "form-data; name=" + quote(p.Name)
		if p.HasFile {
			disposition += "; filename=" + quote(p.File)
		}
		if wrong || strings.Trim(p.Media, " \t") != p.Media || p.File != "" && !p.HasFile || len(disposition) > 8192 || len(p.Media) > 8192 {
			return "", api.ErrPart
		}
		out += "--" + boundary + "\r\nContent-Disposition: " + disposition + "\r\n"
		if p.Media != "" {
			out += "Content-Type: " + p.Media + "\r\n"
		}
		out += "\r\n" + p.Body + "\r\n"
	}
	return out + "--" + boundary + "--\r\n", api.OK
}
