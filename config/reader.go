package config

import (
	"math"
	"slices"
	"strings"

	"turnpike/api"
	"turnpike/octet"
)

// reader reads a text token by token, and keeps what it says.
type reader struct {
	scanner
	next   token // the token that stands next, if it is known
	known  bool
	config api.Config
	places map[api.Spot]int // where the statements begin that say what the spots are
}

func newReader(s string) *reader {
	return &reader{scanner: scanner{text: s}, config: Usual(), places: map[api.Spot]int{}}
}

// look is the token that stands next. Nothing behind it is looked at: what is wrong there comes later.
func (r *reader) look() token {
	if !r.known {
		r.next, r.known = r.scan(), true
	}
	return r.next
}

// take takes the token that stands next.
func (r *reader) take() token {
	t := r.look()
	r.known = false
	return t
}

// refuse gives up at a token that cannot stand where it stands, or at the end, where one must.
func refuse(t token) {
	if t.kind == kindEnd {
		panic(stop{t.at, api.ErrEnd})
	}
	panic(stop{t.at, api.ErrWord})
}

func (r *reader) sign(says string) {
	if t := r.take(); !t.is(kindSign, says) {
		refuse(t)
	}
}

// meets tells whether a sign stands next.
func (r *reader) meets(says string) bool { return r.look().is(kindSign, says) }

func (r *reader) value() string {
	t := r.take()
	if !t.isValue() {
		refuse(t)
	}
	return t.says
}

// values takes one value or more.
func (r *reader) values() []string {
	l := []string{r.value()}
	for r.look().isValue() {
		l = append(l, r.value())
	}
	return l
}

func (r *reader) number() int {
	t := r.take()
	digits, below := strings.CutPrefix(t.says, "-")
	n, err := octet.Decimal(digits, math.MaxInt)
	if t.kind != kindWord || err != api.OK {
		refuse(t)
	}
	if below {
		return -n
	}
	return n
}

// begun takes the word with which one of some things begins: which of them, and where it stands.
func begun[W interface{ begins(t token) bool }](r *reader, l []W) (which, at int) {
	t := r.take()
	which = slices.IndexFunc(l, func(w W) bool { return w.begins(t) })
	if which < 0 {
		refuse(t)
	}
	return which, t.at
}
