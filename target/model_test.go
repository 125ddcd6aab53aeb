package target_test

import (
	"net/netip"
	"regexp"
	"strconv"
	"strings"

	"turnpike/api"
)

// The words of the chapter as patterns, apart from the program's own.
const (
	letters    = "ABCDEFGHIJKLMNOPQRSTUVWXYZabcdefghijklmnopqrstuvwxyz"
	digits     = "0123456789"
	unreserved = letters + digits + "-._~"
	delimiters = "!$&'()*+,;="

	triple    = `%[0-9A-Fa-f]{2}`
	nameSign  = `(?:[A-Za-z0-9._~!$&'()*+,;=-]|` + triple + `)`
	pathSign  = `(?:[A-Za-z0-9._~!$&'()*+,;=:@/-]|` + triple + `)`
	querySign = `(?:[A-Za-z0-9._~!$&'()*+,;=:@/?-]|` + triple + `)`
)

var (
	nameWhole  = regexp.MustCompile(`\A` + nameSign + `+\z`)
	pathWhole  = regexp.MustCompile(`\A/` + pathSign + `*\z`)
	refWhole   = regexp.MustCompile(`\A` + pathSign + `*\z`)
	queryWhole = regexp.MustCompile(`\A` + querySign + `*\z`)
	pathFront  = regexp.MustCompile(`\A` + pathSign + `*`)
	queryFront = regexp.MustCompile(`\A` + querySign + `*`)
	absolute   = regexp.MustCompile(`(?s)\A(?i:http)://([^/?]*)([^?]*)(\?.*)?\z`)
	origin     = regexp.MustCompile(`(?s)\A()([^?]*)(\?.*)?\z`)
	authority  = regexp.MustCompile(`(?s)\A(\[[^\]]*\]|[^:\[]*)(?::([0-9]{0,5}))?\z`)
	someTriple = regexp.MustCompile(triple)
)

// texts goes over all texts of at most so many pieces, each of them out of the list.
func texts(pieces []string, most int) func(yield func(string) bool) {
	return func(yield func(string) bool) {
		level := []string{""}
		for n := 0; ; n++ {
			for _, s := range level {
				if !yield(s) {
					return
				}
			}
			if n == most {
				return
			}
			var next []string
			for _, s := range level {
				for _, p := range pieces {
					next = append(next, s+p)
				}
			}
			level = next
		}
	}
}

// modelHost tells whether a text is a host; of addresses the library knows just those of the chapter, and some with zones.
func modelHost(s string) bool {
	if !strings.HasPrefix(s, "[") {
		return nameWhole.MatchString(s)
	}
	inner := strings.TrimSuffix(s[1:], "]")
	a, err := netip.ParseAddr(inner)
	return len(inner) == len(s)-2 && err == nil && a.Is6() && a.Zone() == "" && !strings.Contains(inner, "%")
}

func modelAuthority(s string) (string, int, bool) {
	m := authority.FindStringSubmatch(s)
	if m == nil || !modelHost(m[1]) {
		return "", 0, false
	}
	if m[2] == "" {
		return strings.ToLower(m[1]), -1, true
	}
	port, _ := strconv.Atoi(m[2])
	if port > 65535 {
		return "", 0, false
	}
	return strings.ToLower(m[1]), port, true
}

// modelFault is the place behind what a pattern takes at the front, and the error there.
func modelFault(s string, front *regexp.Regexp, other api.Errno) (int, api.Errno) {
	at := front.FindStringIndex(s)[1]
	switch {
	case at == len(s):
		return 0, api.OK
	case s[at] == '%':
		return at, api.ErrPercent
	}
	return at, other
}

// parsed is all that Parse answers.
type parsed struct {
	target api.Target
	at     int
	err    api.Errno
}

func modelParse(method, s string) parsed {
	if s == "" {
		return parsed{err: api.ErrForm}
	}
	if method == "CONNECT" {
		host, port, good := modelAuthority(s)
		if !good || port < 0 {
			return parsed{err: api.ErrAuthority}
		}
		return parsed{target: api.Target{Form: api.FormAuthority, Host: host, Port: port}}
	}
	t := api.Target{Form: api.FormOrigin, Port: -1}
	m := origin.FindStringSubmatchIndex(s)
	if s[0] != '/' {
		if method == "OPTIONS" && s == "*" {
			return parsed{target: api.Target{Form: api.FormAsterisk, Port: -1}}
		}
		if m = absolute.FindStringSubmatchIndex(s); m == nil {
			return parsed{err: api.ErrForm}
		}
		good := false
		t.Form = api.FormAbsolute
		if t.Host, t.Port, good = modelAuthority(s[m[2]:m[3]]); !good {
			return parsed{at: m[2], err: api.ErrAuthority}
		}
	}
	if at, err := modelFault(s[m[4]:m[5]], pathFront, api.ErrPath); err != api.OK {
		return parsed{at: m[4] + at, err: err}
	}
	t.Path = s[m[4]:m[5]]
	if t.Path == "" {
		t.Path = "/"
	}
	if m[6] >= 0 {
		t.Query, t.HasQuery = s[m[6]+1:], true
		if at, err := modelFault(t.Query, queryFront, api.ErrQuery); err != api.OK {
			return parsed{at: m[6] + 1 + at, err: err}
		}
	}
	return parsed{target: t}
}

// modelTarget tells by the chapter's words whether Parse answers a target for some text and method.
func modelTarget(t api.Target) bool {
	query := !t.HasQuery && t.Query == "" || t.HasQuery && queryWhole.MatchString(t.Query)
	host := modelHost(t.Host) && t.Host == strings.ToLower(t.Host)
	switch t.Form {
	case api.FormOrigin:
		return t.Host == "" && t.Port == -1 && pathWhole.MatchString(t.Path) && query
	case api.FormAbsolute:
		return host && t.Port >= -1 && t.Port <= 65535 && pathWhole.MatchString(t.Path) && query
	case api.FormAuthority:
		return t == api.Target{Form: t.Form, Host: t.Host, Port: t.Port} && host && t.Port >= 0 && t.Port <= 65535
	}
	return t == api.Target{Form: api.FormAsterisk, Port: -1}
}

func modelPrint(t api.Target) string {
	s := t.Path
	if t.HasQuery {
		s += "?" + t.Query
	}
	port := ""
	if t.Port != -1 {
		port = ":" + strconv.Itoa(t.Port)
	}
	return map[int]string{api.FormOrigin: s, api.FormAbsolute: "http://" + t.Host + port + s, api.FormAuthority: t.Host + port, api.FormAsterisk: "*"}[t.Form]
}

// modelNormal takes dots out by going through the text from its front, as RFC 3986 does it in 5.2.4.
func modelNormal(path string) string {
	in := someTriple.ReplaceAllStringFunc(path, func(s string) string {
		n, _ := strconv.ParseUint(s[1:], 16, 8)
		if c := string([]byte{byte(n)}); strings.Contains(unreserved, c) {
			return c
		}
		return strings.ToUpper(s)
	})
	out := ""
	for in != "" {
		switch {
		case strings.HasPrefix(in, "/./"):
			in = in[2:]
		case in == "/.":
			in = "/"
		case strings.HasPrefix(in, "/../"), in == "/..":
			in = "/" + strings.TrimPrefix(in[3:], "/")
			out = out[:max(strings.LastIndex(out, "/"), 0)]
		default:
			end := strings.Index(in[1:], "/") + 1
			if end == 0 {
				end = len(in)
			}
			out, in = out+in[:end], in[end:]
		}
	}
	return out
}

// modelQuery is the pairs of what is a query.
func modelQuery(s string) []api.Param {
	var l []api.Param
	for _, piece := range strings.Split(s, "&") {
		if piece == "" {
			continue
		}
		parts := strings.SplitN(piece, "=", 2)
		p := api.Param{Name: modelDecode(strings.ReplaceAll(parts[0], "+", "%20"))}
		if len(parts) == 2 {
			p.Value, p.Has = modelDecode(strings.ReplaceAll(parts[1], "+", "%20")), true
		}
		l = append(l, p)
	}
	return l
}

// modelDecode decodes what has no % without its digits.
func modelDecode(s string) string {
	return someTriple.ReplaceAllStringFunc(s, func(s string) string {
		n, _ := strconv.ParseUint(s[1:], 16, 8)
		return string([]byte{byte(n)})
	})
}
