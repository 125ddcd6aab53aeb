package cookie

import (
	"cmp"
	"slices"

	"turnpike/api"
)

// Jar keeps cookies, as a client does. A jar that New did not make is like a nil one.
type Jar struct {
	most  int
	there map[key]entry
	next  int // the place of the next cookie in the order
}

// key is a name, a domain and a path: two cookies with the same are one.
type key [3]string

// entry is a cookie that is kept: as it was set, with its path; its domain was told, if it was set with one.
type entry struct {
	set    api.SetCookie
	domain string
	until  int
	ends   bool // without it, until says nothing
	place  int
}

// New is a jar for at most so many cookies.
func New(most int) (*Jar, api.Errno) {
	if most < 1 || most > api.MaxJar {
		return nil, api.ErrArg
	}
	return &Jar{most: most, there: map[key]entry{}}, api.OK
}

// Set keeps a cookie that the server at a host and a path has set.
func (j *Jar) Set(c api.SetCookie, host, path string, secure bool, now int) api.Errno {
	if j == nil || j.there == nil || !isMoment(now) {
		return api.ErrArg
	}
	if err := check(c); err != api.OK {
		return err
	}
	if c.Domain != "" && !Belongs(host, c.Domain) {
		return api.ErrForeign
	}
	e := newEntry(c, host, path, now)
	old, has := j.there[e.key()]
	if isUnsafe(c, secure) || !secure && has && old.set.Secure && !old.isOver(now) {
		return api.ErrUnsafe
	}
	if has {
		e.place = old.place
	} else {
		e.place = j.next
		j.next++
	}
	j.there[e.key()] = e
	j.makeRoom(now)
	return api.OK
}

// Get is the cookies that are sent to a host and a path.
func (j *Jar) Get(host, path string, secure bool, now int) []api.Cookie {
	sent := j.entries(func(e entry) bool {
		return !e.isOver(now) && e.isFor(host, path) && (secure || !e.set.Secure)
	})
	slices.SortStableFunc(sent, func(a, b entry) int { return cmp.Compare(len(b.set.Path), len(a.set.Path)) })
	var l []api.Cookie
	for _, e := range sent {
		l = append(l, api.Cookie{Name: e.set.Name, Value: e.set.Value})
	}
	return l
}

// Sweep lets go of the cookies that are over: how many.
func (j *Jar) Sweep(now int) int {
	count := j.Len()
	if count == 0 {
		return 0
	}
	for k, e := range j.there {
		if e.isOver(now) {
			delete(j.there, k)
		}
	}
	return count - len(j.there)
}

// Len is how many cookies are kept.
func (j *Jar) Len() int {
	if j == nil {
		return 0
	}
	return len(j.there)
}

// All is the cookies that are kept, in their order.
func (j *Jar) All() []api.SetCookie {
	var l []api.SetCookie
	for _, e := range j.entries(func(entry) bool { return true }) {
		l = append(l, e.set)
	}
	return l
}

// entries is those of what is kept that are wanted, in their order.
func (j *Jar) entries(wanted func(entry) bool) []entry {
	if j == nil {
		return nil
	}
	var l []entry
	for _, e := range j.there {
		if wanted(e) {
			l = append(l, e)
		}
	}
	slices.SortFunc(l, func(a, b entry) int { return cmp.Compare(a.place, b.place) })
	return l
}

// makeRoom lets go of cookies till there are no more than may be.
func (j *Jar) makeRoom(now int) {
	if len(j.there) > j.most {
		j.Sweep(now)
	}
	for len(j.there) > j.most {
		delete(j.there, j.first())
	}
}

// first is the key of the cookie that stands first in the order.
func (j *Jar) first() key {
	var at key
	place := j.next
	for k, e := range j.there {
		if e.place < place {
			at, place = k, e.place
		}
	}
	return at
}

// newEntry is a cookie with what its attributes leave open.
func newEntry(c api.SetCookie, host, path string, now int) entry {
	e := entry{set: c, domain: c.Domain}
	if c.Domain == "" {
		e.domain = host
	}
	if c.Path == "" {
		e.set.Path = DefaultPath(path)
	}
	switch {
	case c.HasMaxAge:
		e.until, e.ends = now+c.MaxAge, true
	case c.HasExpires:
		e.until, e.ends = c.Expires, true
	}
	return e
}

func (e entry) key() key { return key{e.set.Name, e.domain, e.set.Path} }

func (e entry) isOver(now int) bool { return e.ends && now >= e.until }

// isFor tells whether a host and a path are a cookie's. A domain that was not told is its host's alone.
func (e entry) isFor(host, path string) bool {
	told := e.set.Domain != ""
	return (host == e.domain || told && Belongs(host, e.domain)) && Under(path, e.set.Path)
}

// isUnsafe tells whether a cookie may not be set over such a line, whatever is kept. One that is SameAny must be Secure, so that it needs a secure line as well.
func isUnsafe(c api.SetCookie, secure bool) bool {
	return c.Secure && !secure || c.SameSite == api.SameAny && !c.Secure
}
