package message_test

import (
	"fmt"
	"regexp"
	"slices"
	"strconv"
	"strings"

	"turnpike/api"
	"turnpike/chunk"
	"turnpike/field"
)

// The words of the chapter as patterns over bytes that stand for runes of the same number.
var (
	fieldBytes = regexp.MustCompile(`\A[\t\x20-\x7e\x{80}-\x{ff}]*\z`)
	statusLine = regexp.MustCompile(`\AHTTP/1\.([01]) ([1-5][0-9][0-9]) ([\t\x20-\x7e\x{80}-\x{ff}]{0,256})\r\n\z`)
)

// runes is a text in which each byte is the rune of its number: patterns count them one by one then.
func runes(s string) string {
	var b strings.Builder
	for _, c := range []byte(s) {
		b.WriteRune(rune(c))
	}
	return b.String()
}

// beginsStatusLine tells whether a text is a status line, or the beginning of one.
func beginsStatusLine(s string) bool {
	const shortest = "HTTP/1.1 200 \r\n"
	ends := []string{"\r\n", "\n", ""}
	if len(s) < len(shortest)-2 {
		ends = []string{shortest[len(s):]}
	}
	return slices.ContainsFunc(ends, func(end string) bool { return statusLine.MatchString(runes(s + end)) })
}

// outcome is what ParseHead and Parse answer.
type outcome struct {
	reply api.Reply
	n     int
	err   api.Errno
}

func sameReply(a, b api.Reply) bool {
	return a.Response.Status == b.Response.Status && a.Response.Reason == b.Response.Reason && slices.Equal(a.Response.Fields, b.Response.Fields) &&
		a.Response.Body == b.Response.Body && a.Minor == b.Minor && slices.Equal(a.Trailers, b.Trailers) && a.Framing == b.Framing && a.Persist == b.Persist
}

func (o outcome) equal(p outcome) bool {
	return sameReply(o.reply, p.reply) && o.n == p.n && o.err == p.err
}

func (o outcome) String() string { return fmt.Sprintf("{%s, %d, %d}", show(o.reply), o.n, int(o.err)) }

func show(r api.Reply) string {
	return fmt.Sprintf("1.%d %d %.60q %.300q body %.60q of %d, trailers %.300q, framing %v, persist %v", r.Minor, r.Response.Status, r.Response.Reason,
		r.Response.Fields, r.Response.Body, len(r.Response.Body), r.Trailers, r.Framing, r.Persist)
}

func wrong(err api.Errno, at int) outcome { return outcome{n: at, err: err} }

// modelHead is 12.4 by the chapter's words: it looks for the ends of lines in the whole text, and keeps no state.
func modelHead(s string) outcome {
	line, _, ended := strings.Cut(s, "\r\n")
	if ended {
		line += "\r\n"
	}
	for n := range line {
		if !beginsStatusLine(line[:n+1]) {
			return wrong(api.ErrReply, n)
		}
	}
	if !ended {
		return wrong(api.ErrPartial, len(s))
	}
	words := statusLine.FindStringSubmatchIndex(runes(line))
	var r api.Reply
	r.Minor, _ = strconv.Atoi(line[words[2]:words[3]])
	r.Response.Status, _ = strconv.Atoi(line[words[4]:words[5]])
	r.Response.Reason = line[words[6] : len(line)-2]
	return modelFields(s, r, len(line))
}

// modelFields goes on behind a status line.
func modelFields(s string, r api.Reply, at int) outcome {
	const most = 65536
	room, beyond := s, wrong(api.ErrPartial, len(s))
	if len(s) > most {
		room, beyond = s[:most], wrong(api.ErrLarge, most)
	}
	for {
		end := strings.IndexAny(room[at:], "\r\n")
		if end < 0 {
			return beyond
		}
		end += at
		switch {
		case room[end] == '\n':
			return wrong(api.ErrReply, end)
		case end+1 == len(room):
			return beyond
		case room[end+1] != '\n':
			return wrong(api.ErrReply, end+1)
		case end == at:
			return modelFramed(r, at)
		case len(r.Response.Fields) == 100:
			return wrong(api.ErrMany, at)
		}
		f, place, err := field.ParseLine(room[at:end])
		if err != api.OK {
			return wrong(err, at+place)
		}
		r.Response.Fields = append(r.Response.Fields, f)
		at = end + 2
	}
}

// modelFramed goes on at the empty line.
func modelFramed(r api.Reply, at int) outcome {
	framing, err := field.Framing(r.Response.Fields, r.Minor == 0)
	if err != api.OK {
		return wrong(err, at)
	}
	r.Framing = framing
	r.Persist = field.Persist(r.Response.Fields, r.Minor == 0)
	return outcome{reply: r, n: at + 2}
}

// modelNever is the statuses of which a response has no body, whatever the method.
func modelNever(status int) bool {
	return status >= 100 && status <= 199 || status == 204 || status == 304
}

func modelBodyless(method string, status int) bool {
	return modelNever(status) || method == "HEAD" || method == "CONNECT" && status >= 200 && status <= 299
}

// modelParse is 12.5 by the chapter's words.
func modelParse(method, s string, most int, ended bool) outcome {
	if most < 0 {
		return wrong(api.ErrArg, 0)
	}
	o := modelHead(s)
	if o.err != api.OK || modelBodyless(method, o.reply.Response.Status) {
		return o
	}
	rest, length := s[o.n:], o.reply.Framing.Length
	switch o.reply.Framing.Kind {
	case api.FrameChunked:
		body, trailers, n, err := chunk.Decode(rest, most, 65536, 100)
		if err != api.OK {
			return wrong(map[api.Errno]api.Errno{api.ErrOpen: api.ErrPartial, api.ErrMuch: api.ErrLarge, api.ErrChunk: api.ErrChunk, api.ErrTrailer: api.ErrTrailer, api.ErrTrailers: api.ErrTrailers}[err], o.n+n)
		}
		o.reply.Response.Body, o.reply.Trailers = body, trailers
		o.n += n
	case api.FrameLength:
		if length > most {
			return wrong(api.ErrLarge, o.n)
		}
		if length > len(rest) {
			return wrong(api.ErrPartial, len(s))
		}
		o.reply.Response.Body = rest[:length]
		o.n += length
	default:
		if len(rest) > most {
			return wrong(api.ErrLarge, o.n+most)
		}
		if !ended {
			return wrong(api.ErrPartial, len(s))
		}
		o.reply.Response.Body, o.reply.Persist, o.n = rest, false, len(s)
	}
	return o
}

// modelReader is 12.6 to 12.9 by the chapter's words: it keeps all bytes that were not read, and reads them again each time.
type modelReader struct {
	most        int
	asked       []string
	text        string
	replies     []api.Reply
	over, ended bool
	err         api.Errno
}

func (m *modelReader) ask(method string) api.Errno {
	if len(m.asked) == 64 {
		return api.ErrMany
	}
	m.asked = append(m.asked, method)
	return api.OK
}

func (m *modelReader) feed(s string) api.Errno {
	if m.err != api.OK || m.ended {
		return api.ErrStream
	}
	m.text += s
	m.err = m.read()
	if m.err == api.ErrPartial {
		m.err = api.OK
	}
	return m.err
}

func (m *modelReader) end() api.Errno {
	if m.err != api.OK || m.ended {
		return api.ErrStream
	}
	m.ended = true
	m.err = m.read()
	return m.err
}

func (m *modelReader) read() api.Errno {
	for !m.over && m.text != "" {
		if len(m.asked) == 0 {
			return api.ErrStream
		}
		method := m.asked[0]
		o := modelParse(method, m.text, m.most, m.ended)
		if o.err != api.OK {
			return o.err
		}
		m.replies = append(m.replies, o.reply)
		m.text = m.text[o.n:]
		status := o.reply.Response.Status
		if status >= 100 && status <= 199 && status != 101 {
			continue
		}
		m.asked = m.asked[1:]
		m.over = !o.reply.Persist || status == 101 || method == "CONNECT" && status >= 200 && status <= 299
	}
	return api.OK
}

func (m *modelReader) next() (api.Reply, bool) {
	if len(m.replies) == 0 {
		return api.Reply{}, false
	}
	r := m.replies[0]
	m.replies = m.replies[1:]
	return r, true
}

// modelPrint is 12.2 and 12.3 by the chapter's words; the head's text alone, if that is asked for.
func modelPrint(r api.Response, how api.Manner, headAlone bool) (string, api.Errno) {
	never := modelNever(r.Status)
	if r.Status < 100 || r.Status > 599 {
		return "", api.ErrStatus
	}
	if len(r.Reason) > 256 || !fieldBytes.MatchString(runes(r.Reason)) {
		return "", api.ErrReason
	}
	for _, f := range r.Fields {
		switch strings.ToLower(f.Name) {
		case "content-length", "transfer-encoding":
			return "", api.ErrFramed
		case "connection":
			if r.Status != 101 {
				return "", api.ErrFramed
			}
		}
	}
	if never && len(r.Body) > 0 || how.Chunked && how.Old || how.Chunked && never || !how.Chunked && len(how.Sizes)+len(how.Trailers) > 0 {
		return "", api.ErrFramed
	}
	l := slices.Clone(r.Fields)
	if how.Chunked {
		l = append(l, api.Field{Name: "Transfer-Encoding", Value: "chunked"})
	} else if !never {
		l = append(l, api.Field{Name: "Content-Length", Value: strconv.Itoa(len(r.Body))})
	}
	if r.Status > 199 && how.Close {
		l = append(l, api.Field{Name: "Connection", Value: "close"})
	} else if r.Status > 199 && how.Old {
		l = append(l, api.Field{Name: "Connection", Value: "keep-alive"})
	}
	printed, err := field.Print(l)
	if err != api.OK {
		return "", err
	}
	reason := r.Reason
	if reason == "" {
		reason = reasons()[r.Status]
	}
	head := fmt.Sprintf("HTTP/1.1 %d %s\r\n%s\r\n", r.Status, reason, printed)
	if headAlone {
		return head, api.OK
	}
	if len(head) > 65536 {
		return "", api.ErrLarge
	}
	body := r.Body
	if how.Chunked {
		body, err = chunk.Encode(r.Body, how.Sizes, how.Trailers)
		if err != api.OK {
			return "", err
		}
	}
	if modelBodyless(how.Method, r.Status) {
		body = ""
	}
	return head + body, api.OK
}

// reasons is the list of 12.1.
func reasons() map[int]string {
	const list = "100 Continue, 101 Switching Protocols, 200 OK, 201 Created, 202 Accepted, 204 No Content, 206 Partial Content, 301 Moved Permanently, 302 Found, 303 See Other, 304 Not Modified, 307 Temporary Redirect, 308 Permanent Redirect, 400 Bad Request, 401 Unauthorized, 403 Forbidden, 404 Not Found, 405 Method Not Allowed, 406 Not Acceptable, 408 Request Timeout, 411 Length Required, 412 Precondition Failed, 413 Content Too Large, 414 URI Too Long, 415 Unsupported Media Type, 416 Range Not Satisfiable, 417 Expectation Failed, 421 Misdirected Request, 422 Unprocessable Content, 426 Upgrade Required, 428 Precondition Required, 429 Too Many Requests, 431 Request Header Fields Too Large, 500 Internal Server Error, 501 Not Implemented, 502 Bad Gateway, 503 Service Unavailable, 504 Gateway Timeout, 505 HTTP Version Not Supported"
	m := map[int]string{}
	for _, s := range strings.Split(list, ", ") {
		digits, reason, _ := strings.Cut(s, " ")
		n, _ := strconv.Atoi(digits)
		m[n] = reason
	}
	return m
}

// lists goes over all lists of at most so many elements, each of them out of one list.
func lists[T any](elements []T, most int) func(yield func([]T) bool) {
	return func(yield func([]T) bool) {
		level := [][]T{nil}
		for n := 0; ; n++ {
			for _, l := range level {
				if !yield(slices.Clone(l)) {
					return
				}
			}
			if n == most {
				return
			}
			var next [][]T
			for _, l := range level {
				for _, e := range elements {
					next = append(next, append(slices.Clip(l), e))
				}
			}
			level = next
		}
	}
}

// texts goes over all texts of at most so many pieces, each of them out of the list.
func texts(pieces []string, most int) func(yield func(string) bool) {
	return func(yield func(string) bool) {
		for l := range lists(pieces, most) {
			if !yield(strings.Join(l, "")) {
				return
			}
		}
	}
}

// edits goes over all texts that come of one by a byte that is left out, put in, or put in the place of another.
func edits(s string, bytes string) func(yield func(string) bool) {
	return func(yield func(string) bool) {
		for i := range len(s) + 1 {
			if i < len(s) && !yield(s[:i]+s[i+1:]) {
				return
			}
			for _, c := range []byte(bytes) {
				if !yield(s[:i]+string([]byte{c})+s[i:]) || i < len(s) && !yield(s[:i]+string([]byte{c})+s[i+1:]) {
					return
				}
			}
		}
	}
}

// everyByte is all bytes, one behind the other.
func everyByte() string {
	var b []byte
	for c := range 256 {
		b = append(b, byte(c))
	}
	return string(b)
}

// byBytes is the bytes of a text, each as a text of its own.
func byBytes(s string) []string {
	var l []string
	for i := range len(s) {
		l = append(l, s[i:i+1])
	}
	return l
}

// lines is a text with line ends in the place of |.
func lines(s string) string { return strings.ReplaceAll(s, "|", "\r\n") }
