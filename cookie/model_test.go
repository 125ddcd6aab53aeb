package cookie_test

import (
	"fmt"
	"math/big"
	"regexp"
	"slices"
	"strconv"
	"strings"

	"turnpike/api"
	"turnpike/stamp"
)

// The words of the chapter as patterns, apart from the program's own.
const (
	tokenPattern = "[!#$%&'*+.^_`|~0-9A-Za-z-]+"
	signPattern  = `[\x21\x23-\x2b\x2d-\x3a\x3c-\x5b\x5d-\x7e]*`
	valuePattern = `(?:` + signPattern + `|"` + signPattern + `")`
)

var (
	nameAll     = regexp.MustCompile(`\A` + tokenPattern + `\z`)
	valueAll    = regexp.MustCompile(`\A` + valuePattern + `\z`)
	cookieAll   = regexp.MustCompile(`\A[ \t]*(` + tokenPattern + `)[ \t]*=[ \t]*(` + valuePattern + `)[ \t]*\z`)
	blankAll    = regexp.MustCompile(`\A[ \t]*\z`)
	attribute   = regexp.MustCompile(`(?s)\A[ \t]*([^=]*?)[ \t]*(?:=[ \t]*(.*?)[ \t]*)?\z`)
	ageAll      = regexp.MustCompile(`\A-?[0-9]+\z`)
	domainAll   = regexp.MustCompile(`\A[a-z0-9-][a-z0-9.-]{0,254}\z`)
	pathAll     = regexp.MustCompile(`\A/[\x21-\x3a\x3c-\x7e]*\z`)
	numberAll   = regexp.MustCompile(`(?s)\A(?:[0-9.]*|\[.*\])\z`)
	defaultPath = regexp.MustCompile(`(?s)\A(/.*)/[^/]*\z`)
)

// show is what is told of something that is not as it must be; not all, if it is long.
func show(x any) string { return fmt.Sprintf("%.300q", fmt.Sprintf("%+v", x)) }

// lists goes over all lists of at most so many elements, each of them out of one list.
func lists[T any](elements []T, most int) func(yield func([]T) bool) {
	return func(yield func([]T) bool) {
		level := [][]T{nil}
		for n := 0; ; n++ {
			for _, l := range level {
				if !yield(slices.Clone(l)) {
					return
				}
			}
			if n == most {
				return
			}
			var next [][]T
			for _, l := range level {
				for _, e := range elements {
					next = append(next, append(slices.Clip(l), e))
				}
			}
			level = next
		}
	}
}

// texts goes over all texts of at most so many pieces, each of them out of the list.
func texts(pieces []string, most int) func(yield func(string) bool) {
	return func(yield func(string) bool) {
		for l := range lists(pieces, most) {
			if !yield(strings.Join(l, "")) {
				return
			}
		}
	}
}

// everyByte is all bytes, each as a text.
func everyByte() []string {
	var l []string
	for c := range 256 {
		l = append(l, string([]byte{byte(c)}))
	}
	return l
}

// small is a text with small letters, of which only A to Z have others.
func small(s string) string {
	b := []byte(s)
	for i, c := range b {
		if 'A' <= c && c <= 'Z' {
			b[i] = c + 32
		}
	}
	return string(b)
}

func modelMoment(n int) bool { return n >= -62135596800 && n <= 253402300799 }

func modelCookie(c api.Cookie) bool {
	return nameAll.MatchString(c.Name) && valueAll.MatchString(c.Value) && len(c.Name+c.Value) <= 4096
}

// modelRead is the cookie that a piece tells.
func modelRead(piece string) (api.Cookie, bool) {
	found := cookieAll.FindStringSubmatch(piece)
	if found == nil || len(found[1]+found[2]) > 4096 {
		return api.Cookie{}, false
	}
	return api.Cookie{Name: found[1], Value: found[2]}, true
}

// modelParse is 16.1.
func modelParse(s string) ([]api.Cookie, int) {
	var l []api.Cookie
	none := 0
	for _, piece := range strings.Split(s, ";") {
		if c, good := modelRead(piece); good {
			l = append(l, c)
		} else if !blankAll.MatchString(piece) {
			none++
		}
	}
	return l, none
}

// modelParseSet is the first half of 16.2: of each word it looks for the last one that counts, from the end on.
func modelParseSet(s string, now int) (api.SetCookie, api.Errno) {
	pieces := strings.Split(s, ";")
	first, good := modelRead(pieces[0])
	if !good {
		return api.SetCookie{}, api.ErrCookie
	}
	c := api.SetCookie{Name: first.Name, Value: first.Value}
	last := func(word string, counts func(value string) bool) {
		for i := len(pieces) - 1; i > 0; i-- {
			found := attribute.FindStringSubmatch(pieces[i])
			if small(found[1]) == word && counts(found[2]) {
				return
			}
		}
	}
	last("expires", func(value string) bool {
		moment, _, err, _ := stamp.Parse(value, now)
		c.Expires, c.HasExpires = moment, err == api.OK
		return c.HasExpires
	})
	last("max-age", func(value string) bool {
		c.HasMaxAge = ageAll.MatchString(value)
		if n, good := new(big.Int).SetString(value, 10); c.HasMaxAge && good {
			c.MaxAge = 34560000
			if n.IsInt64() {
				c.MaxAge = int(min(max(n.Int64(), 0), 34560000))
			} else if n.Sign() < 0 {
				c.MaxAge = 0
			}
		}
		return c.HasMaxAge
	})
	last("domain", func(value string) bool {
		domain := strings.TrimPrefix(small(value), ".")
		if domainAll.MatchString(domain) {
			c.Domain = domain
		}
		return c.Domain != ""
	})
	last("path", func(value string) bool {
		c.Path = pathAll.FindString(value)
		return true
	})
	last("secure", func(string) bool { c.Secure = true; return true })
	last("httponly", func(string) bool { c.HttpOnly = true; return true })
	last("samesite", func(value string) bool {
		c.SameSite = map[string]int{"lax": 1, "strict": 2, "none": 3}[small(value)]
		return true
	})
	return c, api.OK
}

// modelCheck is what is wrong with a cookie that is to be set.
func modelCheck(c api.SetCookie) api.Errno {
	if !modelCookie(api.Cookie{Name: c.Name, Value: c.Value}) {
		return api.ErrCookie
	}
	right := (c.Path == "" || pathAll.MatchString(c.Path)) && (c.Domain == "" || domainAll.MatchString(c.Domain)) &&
		(c.HasMaxAge || c.MaxAge == 0) && (c.HasExpires || c.Expires == 0) && modelMoment(c.Expires)
	if !right || c.MaxAge < 0 || c.MaxAge > 34560000 || c.SameSite < 0 || c.SameSite > 3 {
		return api.ErrAttribute
	}
	return api.OK
}

// modelPrintSet is the second half of 16.2.
func modelPrintSet(c api.SetCookie) (string, api.Errno) {
	if err := modelCheck(c); err != api.OK {
		return "", err
	}
	s := c.Name + "=" + c.Value
	if c.Path != "" {
		s += "; Path=" + c.Path
	}
	if c.Domain != "" {
		s += "; Domain=" + c.Domain
	}
	if c.HasMaxAge {
		s += "; Max-Age=" + strconv.Itoa(c.MaxAge)
	}
	if c.HasExpires {
		date, _ := stamp.Print(c.Expires)
		s += "; Expires=" + date
	}
	if c.Secure {
		s += "; Secure"
	}
	if c.HttpOnly {
		s += "; HttpOnly"
	}
	return s + []string{"", "; SameSite=Lax", "; SameSite=Strict", "; SameSite=None"}[c.SameSite], api.OK
}

func modelBelongs(host, domain string) bool {
	return host == domain || !numberAll.MatchString(host) && strings.HasSuffix(host, "."+domain)
}

func modelUnder(path, cookie string) bool {
	if path == cookie {
		return true
	}
	return strings.HasPrefix(path, cookie) && (strings.HasSuffix(cookie, "/") || path[len(cookie)] == '/')
}

func modelDefaultPath(path string) string {
	found := defaultPath.FindStringSubmatch(path)
	if found == nil {
		return "/"
	}
	return found[1]
}

// modelJar is a jar as a flat list of cookies, each with what the chapter says that is kept of it.
type modelJar struct {
	most int
	kept []modelKept
}

type modelKept struct {
	set          api.SetCookie
	domain, path string
	told         bool
	until        *int
}

func (k modelKept) over(now int) bool { return k.until != nil && now >= *k.until }

// set is 16.5, sentence by sentence.
func (m *modelJar) set(c api.SetCookie, host, path string, secure bool, now int) api.Errno {
	if !modelMoment(now) {
		return api.ErrArg
	}
	if err := modelCheck(c); err != api.OK {
		return err
	}
	k := modelKept{set: c, domain: c.Domain, path: c.Path, told: c.Domain != ""}
	if k.told && !modelBelongs(host, c.Domain) {
		return api.ErrForeign
	}
	if !k.told {
		k.domain = host
	}
	if k.path == "" {
		k.path = modelDefaultPath(path)
	}
	if c.Secure && !secure || c.SameSite == 3 && !secure || c.SameSite == 3 && !c.Secure {
		return api.ErrUnsafe
	}
	at := slices.IndexFunc(m.kept, func(o modelKept) bool {
		return o.set.Name == c.Name && o.domain == k.domain && o.path == k.path
	})
	if !secure && at >= 0 && m.kept[at].set.Secure && !m.kept[at].over(now) {
		return api.ErrUnsafe
	}
	if c.HasMaxAge {
		until := now + c.MaxAge
		k.until = &until
	} else if c.HasExpires {
		k.until = &c.Expires
	}
	if at >= 0 {
		m.kept[at] = k
	} else {
		m.kept = append(m.kept, k)
	}
	if len(m.kept) > m.most {
		m.sweep(now)
	}
	for len(m.kept) > m.most {
		m.kept = m.kept[1:]
	}
	return api.OK
}

// get is the first half of 16.6. The longest path that is left is looked for each time.
func (m *modelJar) get(host, path string, secure bool, now int) []api.Cookie {
	var found []modelKept
	for _, k := range m.kept {
		mine := k.domain == host || k.told && modelBelongs(host, k.domain)
		if !k.over(now) && mine && modelUnder(path, k.path) && (secure || !k.set.Secure) {
			found = append(found, k)
		}
	}
	var l []api.Cookie
	for len(found) > 0 {
		best := 0
		for i := range found {
			if len(found[i].path) > len(found[best].path) {
				best = i
			}
		}
		l = append(l, api.Cookie{Name: found[best].set.Name, Value: found[best].set.Value})
		found = slices.Delete(found, best, best+1)
	}
	return l
}

func (m *modelJar) sweep(now int) int {
	before := len(m.kept)
	m.kept = slices.DeleteFunc(slices.Clone(m.kept), func(k modelKept) bool { return k.over(now) })
	return before - len(m.kept)
}

func (m *modelJar) all() []api.SetCookie {
	var l []api.SetCookie
	for _, k := range m.kept {
		c := k.set
		c.Path, c.Domain = k.path, ""
		if k.told {
			c.Domain = k.domain
		}
		l = append(l, c)
	}
	return l
}
