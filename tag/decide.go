package tag

import (
	"slices"

	"turnpike/api"
	"turnpike/field"
	"turnpike/octet"
	"turnpike/stamp"
)

const (
	ifMatch           = "If-Match"
	ifUnmodifiedSince = "If-Unmodified-Since"
	ifNoneMatch       = "If-None-Match"
	ifModifiedSince   = "If-Modified-Since"
	ifRange           = "If-Range"
)

// The steps of a decision, in the order in which they are asked.
const (
	stepMatch = iota
	stepUnmodified
	stepNoneMatch
	stepModified
	stepCount
)

// asked is what is decided about: a request for a resource in its state.
type asked struct {
	method string
	fields []api.Field
	state  api.State
	now    int
}

// Decide is what the preconditions of a request say: DecideGo, DecideSame or DecideFailed.
func Decide(method string, l []api.Field, s api.State, now int) int {
	a := asked{method: method, fields: l, state: s, now: now}
	for _, step := range a.steps() {
		if told := step(); told != api.DecideGo {
			return told
		}
	}
	return api.DecideGo
}

// Ranged tells whether a field Range is to be looked at.
func Ranged(l []api.Field, s api.State, now int) bool {
	values := field.All(l, ifRange)
	if len(values) == 0 {
		return true
	}
	if len(values) > 1 || !s.There {
		return false
	}
	if t, _, err := Parse(octet.Trim(values[0])); err == api.OK {
		return s.Tagged && Strong(t, s.Tag)
	}
	a := asked{fields: l, state: s, now: now}
	date, ok := a.date(ifRange)
	return ok && s.Time == date
}

func (a *asked) steps() [stepCount]func() int {
	return [stepCount]func() int{
		stepMatch:      a.match,
		stepUnmodified: a.unmodified,
		stepNoneMatch:  a.noneMatch,
		stepModified:   a.modified,
	}
}

func (a *asked) match() int {
	if a.has(ifMatch) && !a.meets(ifMatch, Strong) {
		return api.DecideFailed
	}
	return api.DecideGo
}

func (a *asked) unmodified() int {
	date, ok := a.date(ifUnmodifiedSince)
	if ok && !a.has(ifMatch) && a.state.Time > date {
		return api.DecideFailed
	}
	return api.DecideGo
}

func (a *asked) noneMatch() int {
	switch {
	case !a.meets(ifNoneMatch, Alike):
		return api.DecideGo
	case a.reads():
		return api.DecideSame
	}
	return api.DecideFailed
}

func (a *asked) modified() int {
	date, ok := a.date(ifModifiedSince)
	if ok && !a.has(ifNoneMatch) && a.reads() && a.state.Time <= date {
		return api.DecideSame
	}
	return api.DecideGo
}

// reads tells whether the method is one whose answer a client may have already.
func (a *asked) reads() bool { return a.method == "GET" || a.method == "HEAD" }

func (a *asked) has(name string) bool {
	_, has := field.Find(a.fields, name)
	return has
}

// meets tells whether the resource is one of those that the field of that name tells: by a *, or by a tag like its own.
func (a *asked) meets(name string, like func(t, own api.Tag) bool) bool {
	if !a.state.There {
		return false
	}
	// Without such a field the value is empty, which is no condition, and meets nothing.
	value, _ := field.Joined(a.fields, name)
	l, all, _, _ := List(value)
	same := func(t api.Tag) bool { return like(t, a.state.Tag) }
	return all || a.state.Tagged && slices.ContainsFunc(l, same)
}

// date is the date of that name, if the resource has a time to be held against it.
func (a *asked) date(name string) (int, bool) {
	values := field.All(a.fields, name)
	if len(values) != 1 || !a.state.There || !a.state.Timed {
		return 0, false
	}
	date, _, err, _ := stamp.Parse(values[0], a.now)
	return date, err == api.OK
}
