package handle_test

import (
	"fmt"
	"regexp"
	"slices"
	"strconv"
	"strings"
	"testing"

	"turnpike/api"
	"turnpike/base"
	"turnpike/cookie"
	"turnpike/handle"
	"turnpike/message"
	"turnpike/sheet"
	"turnpike/shelf"
	"turnpike/stamp"
	"turnpike/target"
)

// The words of the chapter as patterns over bytes, apart from the program's own.
var (
	reference  = regexp.MustCompile(`\A(?:[\t\x20-z|~\x{80}-\x{ff}]|\{[A-Za-z][A-Za-z0-9_]*\})+\z`)
	blankEnds  = regexp.MustCompile(`\A[\t ]|[\t ]\z`)
	name       = regexp.MustCompile(`\{([^}]*)\}`)
	nameAll    = regexp.MustCompile(`\A(?:[A-Za-z][A-Za-z0-9_]*)?\z`)
	mediaAll   = regexp.MustCompile(`\A[\x21-\x7e\x{80}-\x{ff}](?:[\t\x20-\x7e\x{80}-\x{ff}]*[\x21-\x7e\x{80}-\x{ff}])?\z`)
	tokenAll   = regexp.MustCompile("\\A[!#$%&'*+.^_`|~0-9A-Za-z-]+\\z")
	leadingNil = regexp.MustCompile(`\A0*([0-9]{1,9})\z`)
)

// show is what is told of something that is not as it must be; not all, if it is long.
func show(x any) string { return fmt.Sprintf("%.400q", fmt.Sprintf("%+v", x)) }

// texts goes over all texts of at most so many pieces, each of them out of the list.
func texts(pieces []string, most int) func(yield func(string) bool) {
	return func(yield func(string) bool) {
		level := []string{""}
		for n := 0; ; n++ {
			for _, s := range level {
				if !yield(s) {
					return
				}
			}
			if n == most {
				return
			}
			var next []string
			for _, s := range level {
				for _, p := range pieces {
					next = append(next, s+p)
				}
			}
			level = next
		}
	}
}

// everyByte is all bytes, each as a text.
func everyByte() []string {
	var l []string
	for c := range 256 {
		l = append(l, string([]byte{byte(c)}))
	}
	return l
}

// bytewise is a text in which each byte stands as a rune, as patterns want it.
func bytewise(s string) string {
	var b strings.Builder
	for _, c := range []byte(s) {
		b.WriteRune(rune(c))
	}
	return b.String()
}

// fields is a list of fields from names and values that alternate.
func fields(l ...string) []api.Field {
	var all []api.Field
	for i := 0; i+1 < len(l); i += 2 {
		all = append(all, api.Field{Name: l[i], Value: l[i+1]})
	}
	return all
}

// params is a list of parameters from names and values that alternate.
func params(l ...string) []api.Param {
	var all []api.Param
	for i := 0; i+1 < len(l); i += 2 {
		all = append(all, api.Param{Name: l[i], Value: l[i+1], Has: true})
	}
	return all
}

// plain is a plain answer; its body is told without the line feed.
func plain(status int, body string, further ...string) api.Response {
	l := append(fields("Content-Type", "text/plain; charset=utf-8"), fields(further...)...)
	return api.Response{Status: status, Fields: l, Body: body + "\n"}
}

// text is a text answer.
func text(body string, further ...string) api.Response {
	l := append(fields("Content-Type", "text/plain; charset=utf-8"), fields(further...)...)
	return api.Response{Status: 200, Fields: l, Body: body}
}

func same(a, b api.Response) bool {
	return a.Status == b.Status && a.Reason == b.Reason && a.Body == b.Body && slices.Equal(a.Fields, b.Fields)
}

// checkAnswer asks a handler, and holds what it answers against what is wanted.
func checkAnswer(t *testing.T, h api.Handler, a api.Asked, s *shelf.Shelf, want api.Response) {
	t.Helper()
	if r := handle.Answer(h, a, s); !same(r, want) {
		t.Errorf("Answer(%s, %s): %s, wanted %s", show(h), show(a), show(r), show(want))
	}
}

func newShelf(t *testing.T, l ...api.File) *shelf.Shelf {
	t.Helper()
	s, at, err := shelf.New(l)
	if err != api.OK {
		t.Fatal("New:", at, err)
	}
	return s
}

// modelRefer is what a reference says, piece by piece.
func modelRefer(s string, l []api.Param) (string, bool) {
	if !reference.MatchString(bytewise(s)) || blankEnds.MatchString(s) {
		return "", false
	}
	return name.ReplaceAllStringFunc(s, func(piece string) string {
		for _, p := range l {
			if "{"+p.Name+"}" == piece {
				return p.Value
			}
		}
		return ""
	}), true
}

// modelCheck is 18.1, row by row of the chapter's table.
func modelCheck(h api.Handler) bool {
	noText, noName, noMedia := h.Text == "", h.Name == "", h.Media == ""
	noStatus, noN := h.Status == 0, h.N == 0
	answers := h.Status > 199 && h.Status < 600
	_, refers := modelRefer(h.Text, nil)
	switch h.Kind {
	case 1:
		return answers && h.Status != 204 && h.Status != 304 && mediaAll.MatchString(bytewise(h.Media)) && len(h.Media) <= 8192 && noName && noN
	case 2:
		return answers && noText && noName && noMedia && noN
	case 3:
		return slices.Contains([]int{301, 302, 303, 307, 308}, h.Status) && refers && noName && noMedia && noN
	case 4, 5, 9:
		return noText && noName && noMedia && noStatus && noN
	case 6:
		return nameAll.MatchString(h.Name) && (h.N == 0 || h.N == 1) && noText && noMedia && noStatus
	case 7:
		return h.N > 0 && h.N < 1001 && noText && noName && noMedia && noStatus
	case 8:
		return tokenAll.MatchString(bytewise(h.Name)) && noText && noMedia && noStatus && noN
	}
	return false
}

// modelPlain is a plain answer by its words.
func modelPlain(status int, further ...string) api.Response {
	body := message.Reason(status)
	if body == "" {
		body = fmt.Sprint("Status ", status)
	}
	return plain(status, body, further...)
}

// modelAnswer is 18.2, word by word.
func modelAnswer(h api.Handler, a api.Asked, l []api.File) api.Response {
	if !modelCheck(h) {
		return modelPlain(500)
	}
	switch h.Kind {
	case 1:
		return api.Response{Status: h.Status, Fields: fields("Content-Type", h.Media), Body: h.Text}
	case 2:
		if h.Status == 204 || h.Status == 304 {
			return api.Response{Status: h.Status}
		}
		return modelPlain(h.Status)
	case 3:
		to, _ := modelRefer(h.Text, a.Params)
		return modelPlain(h.Status, "Location", to)
	case 4:
		return text(modelEcho(a.Request))
	case 5:
		return text(modelParams(a))
	case 6:
		return modelStatic(h, a, l)
	case 7:
		return modelForm(h, a.Request)
	case 8:
		return modelCount(h, a.Request.Fields)
	}
	return modelSocket(a.Request)
}

func modelEcho(r api.Request) string {
	lines := []string{r.Method + " " + r.Target}
	for _, f := range r.Fields {
		lines = append(lines, f.Name+": "+f.Value)
	}
	return strings.Join(append(lines, "", r.Body), "\n")
}

func modelParams(a api.Asked) string {
	var all []string
	for _, p := range a.Params {
		value, _, err := target.Decode(p.Value)
		if err != api.OK {
			value = ""
		}
		all = append(all, fmt.Sprintf("path %s=%s\n", p.Name, target.Encode(value)))
	}
	pairs, _, err := target.Query(a.Target.Query)
	if !a.Target.HasQuery || err != api.OK {
		pairs = nil
	}
	return strings.Join(append(all, modelPairs("query", pairs)...), "")
}

func modelPairs(word string, pairs []api.Param) []string {
	var all []string
	for _, p := range pairs {
		if p.Has {
			all = append(all, fmt.Sprintf("%s %s=%s\n", word, target.Encode(p.Name), target.Encode(p.Value)))
		} else {
			all = append(all, fmt.Sprintf("%s %s\n", word, target.Encode(p.Name)))
		}
	}
	return all
}

// valuesOf is the values of all fields of a name, in whatever case.
func valuesOf(l []api.Field, name string) []string {
	var all []string
	for _, f := range l {
		if strings.ToLower(f.Name) == strings.ToLower(name) {
			all = append(all, f.Value)
		}
	}
	return all
}

func modelWish(l []api.Field) api.Wish {
	media, coding, language := valuesOf(l, "accept"), valuesOf(l, "accept-encoding"), valuesOf(l, "accept-language")
	return api.Wish{
		Accept: strings.Join(media, ", "), HasAccept: media != nil,
		Coding: strings.Join(coding, ", "), HasCoding: coding != nil,
		Language: strings.Join(language, ", "), HasLanguage: language != nil,
	}
}

func modelStatic(h api.Handler, a api.Asked, l []api.File) api.Response {
	path := a.Target.Path
	if h.Name != "" {
		to, _ := modelRefer("/{"+h.Name+"}", a.Params)
		path = to
	}
	path, err := target.Normal(path)
	if err != api.OK {
		return modelPlain(400)
	}
	s, _, _ := shelf.New(l)
	found := s.Find(path, modelWish(a.Request.Fields))
	vary := []string{"Vary", strings.Join(found.Vary, ", ")}
	if len(found.Vary) == 0 {
		vary = nil
	}
	entries, _ := s.Entries(path)
	switch {
	case found.Kind == api.FoundFile:
		return modelFile(s, found.File, vary)
	case found.Kind == api.FoundUnliked:
		return modelPlain(406, vary...)
	case found.Kind == api.FoundSlash && a.Target.HasQuery:
		return modelPlain(301, "Location", a.Target.Path+"/?"+a.Target.Query)
	case found.Kind == api.FoundSlash:
		return modelPlain(301, "Location", a.Target.Path+"/")
	case found.Kind == api.FoundDirectory && h.N == 1:
		return text(strings.Join(append(entries, ""), "\n"))
	}
	return modelPlain(404)
}

func modelFile(s *shelf.Shelf, i int, vary []string) api.Response {
	f, _ := s.File(i)
	l := []string{"Content-Type", f.Media}
	if f.Coding != "" {
		l = append(l, "Content-Encoding", f.Coding)
	}
	if f.Language != "" {
		l = append(l, "Content-Language", f.Language)
	}
	tag, _ := s.Tag(i)
	l = append(l, "ETag", tag)
	if f.Time != -1 {
		date, _ := stamp.Print(f.Time)
		l = append(l, "Last-Modified", date)
	}
	l = append(append(l, "Accept-Ranges", "bytes"), vary...)
	return api.Response{Status: 200, Fields: fields(l...), Body: f.Body}
}

var (
	pairsType = regexp.MustCompile(`(?i)\A[\t ]*application/x-www-form-urlencoded[\t ]*\z`)
	partsType = regexp.MustCompile(`(?i)\A[\t ]*multipart/form-data[\t ]*;[\t ]*boundary=("?)([a-z0-9'()+_,./:=?-]+)("?)[\t ]*\z`)
)

// modelForm takes a form's media type without parameters, or with the boundary alone.
func modelForm(h api.Handler, r api.Request) api.Response {
	types := valuesOf(r.Fields, "Content-Type")
	if len(types) != 1 {
		return modelPlain(415)
	}
	if pairsType.MatchString(types[0]) {
		pairs, _, err := sheet.Pairs(r.Body)
		if err != api.OK {
			return modelPlain(400)
		}
		return text(strings.Join(modelPairs("pair", pairs), ""))
	}
	found := partsType.FindStringSubmatch(types[0])
	if found == nil || found[1] != found[3] || found[1] == "" && !tokenAll.MatchString(found[2]) {
		return modelPlain(415)
	}
	parts, _, err := sheet.Parse(found[2], r.Body, h.N)
	if err == api.ErrParts {
		return modelPlain(413)
	}
	if err != api.OK {
		return modelPlain(400)
	}
	var body string
	for _, p := range parts {
		file, media := "-", "-"
		if p.HasFile {
			file = target.Encode(p.File)
		}
		if p.Media != "" {
			media = target.Encode(p.Media)
		}
		body += fmt.Sprintf("part %s %s %s %d\n", target.Encode(p.Name), file, media, len(p.Body))
	}
	return text(body)
}

// modelCount reads all fields Cookie as one, with a semicolon between.
func modelCount(h api.Handler, l []api.Field) api.Response {
	cookies, _ := cookie.Parse(strings.Join(valuesOf(l, "Cookie"), ";"))
	n := 0
	for _, c := range cookies {
		if c.Name == h.Name {
			if found := leadingNil.FindStringSubmatch(c.Value); found != nil {
				n, _ = strconv.Atoi(found[1])
			}
			break
		}
	}
	digits := strconv.Itoa(n + 1)
	set := h.Name + "=" + digits + "; Path=/"
	if len(h.Name)+len(digits) > 4096 {
		set = ""
	}
	return text(digits+"\n", "Set-Cookie", set)
}

func modelSocket(r api.Request) api.Response {
	version, key := valuesOf(r.Fields, "sec-websocket-version"), valuesOf(r.Fields, "sec-websocket-key")
	switch {
	case fmt.Sprint(r.Method, " ", r.Major, ".", r.Minor) != "GET 1.1":
		return modelPlain(400)
	case !modelHas(r.Fields, "upgrade", "websocket") || !modelHas(r.Fields, "connection", "upgrade"):
		return modelPlain(426, "Upgrade", "websocket", "Connection", "Upgrade")
	case !slices.Equal(version, []string{"13"}):
		return modelPlain(426, "Sec-WebSocket-Version", "13")
	case len(key) != 1:
		return modelPlain(400)
	}
	bytes, _, err := base.Decode(key[0])
	if err != api.OK || len(bytes) != 16 {
		return modelPlain(400)
	}
	sum := base.Encode(base.Sha1(key[0] + "258EAFA5-E914-47DA-95CA-C5AB0DC85B11"))
	return api.Response{Status: 101, Fields: fields("Upgrade", "websocket", "Connection", "Upgrade", "Sec-WebSocket-Accept", sum)}
}

// modelHas is whether a token is among those of a name; all elements must be tokens.
func modelHas(l []api.Field, name, token string) bool {
	has := false
	for _, element := range strings.Split(strings.Join(valuesOf(l, name), ","), ",") {
		element = strings.Trim(element, "\t ")
		if element != "" && !tokenAll.MatchString(element) {
			return false
		}
		has = has || strings.ToLower(element) == token
	}
	return has
}
