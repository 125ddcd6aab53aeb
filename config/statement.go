package config

import (
	"turnpike/api"
	"turnpike/shelf"
)

const (
	wordMiddle = "middle"
	wordRoute  = "route"
	wordFile   = "file"
)

// statement is how a statement is read, from behind its word on, which stands at a place.
type statement struct {
	word
	read func(r *reader, at int)
}

func statements() []statement {
	l := []statement{
		{wordMiddle, (*reader).middle},
		{wordRoute, (*reader).route},
		{wordFile, (*reader).file},
	}
	for number, s := range settings() {
		l = append(l, statement{s.word, func(r *reader, at int) { r.setting(number, s, at) }})
	}
	return l
}

// statements reads all of a text.
func (r *reader) statements() {
	l := statements()
	for r.look().kind != kindEnd {
		which, at := begun(r, l)
		l[which].read(r, at)
	}
}

func (r *reader) setting(number int, s setting, at int) {
	spot := api.Spot{Kind: api.SpotSetting, Number: number}
	if _, stood := r.places[spot]; stood {
		panic(stop{at, api.ErrRepeat})
	}
	r.places[spot] = at
	s.read(r, &r.config)
}

func (r *reader) middle(at int) {
	r.places[api.Spot{Kind: api.SpotMiddle, Number: len(r.config.Middles)}] = at
	r.config.Middles = append(r.config.Middles, r.element())
}

// element reads an element of a chain.
func (r *reader) element() api.Middle {
	l := middles()
	kind, _ := begun(r, l)
	m := api.Middle{Kind: kind}
	l[kind].read(r, &m)
	return m
}

func (r *reader) handler() api.Handler {
	l := handlers()
	kind, _ := begun(r, l)
	h := api.Handler{Kind: kind}
	l[kind].read(r, &h)
	return h
}

func (r *reader) route(at int) {
	r.places[api.Spot{Kind: api.SpotRoute, Number: len(r.config.Routes)}] = at
	l := r.values()
	last := len(l) - 1
	x := api.Route{Methods: append([]string(nil), l[:last]...), Pattern: l[last]}
	r.sign(opens)
	for word(wordMiddle).begins(r.look()) {
		r.take()
		x.Middles = append(x.Middles, r.element())
	}
	x.Handler = r.handler()
	r.sign(shuts)
	r.config.Routes = append(r.config.Routes, x)
}

func (r *reader) file(at int) {
	r.places[api.Spot{Kind: api.SpotFile, Number: len(r.config.Files)}] = at
	path := r.value()
	f := api.File{Path: path, Media: shelf.MediaOf(path), Time: none}
	r.sign(opens)
	l := fileWords()
	var stood [fileClauses]bool
	for !r.meets(shuts) {
		which, at := begun(r, l)
		if stood[which] {
			panic(stop{at, api.ErrRepeat})
		}
		stood[which] = true
		l[which].read(r, &f)
	}
	r.sign(shuts)
	r.config.Files = append(r.config.Files, f)
}
