package config

import "turnpike/api"

// part is what stands behind a word, and says what something is: how it is read, and how it is written.
type part struct {
	read  func(r *reader)
	write func(w *writer)
}

func text(of *string) part {
	return part{
		read:  func(r *reader) { *of = r.value() },
		write: func(w *writer) { w.value(*of) },
	}
}

func number(of *int) part {
	return part{
		read:  func(r *reader) { *of = r.number() },
		write: func(w *writer) { w.number(*of) },
	}
}

func list(of *[]string) part {
	return part{
		read:  func(r *reader) { *of = r.values() },
		write: func(w *writer) { w.values(*of) },
	}
}

// so is nothing: the word ahead says it all.
func so(of *bool) part {
	return part{
		read:  func(*reader) { *of = true },
		write: func(*writer) {},
	}
}

// word is a word with which something begins; where it is empty nothing does, as no token is.
type word string

func (w word) begins(t token) bool { return t.is(kindWord, string(w)) }

// clause is a word and what stands behind it, up to the sign that ends it. It says what a thing is.
type clause[T any] struct {
	word
	parts func(of *T) []part
}

// read takes what stands behind the word.
func (c clause[T]) read(r *reader, of *T) {
	for _, p := range c.parts(of) {
		p.read(r)
	}
	r.sign(ends)
}

func (c clause[T]) write(w *writer, of *T) {
	w.WriteString(string(c.word))
	for _, p := range c.parts(of) {
		p.write(w)
	}
	w.WriteString(ends)
}

// middles is how elements are told, by their kinds.
func middles() []clause[api.Middle] {
	return []clause[api.Middle]{
		api.MiddleAdd:     {"add", func(m *api.Middle) []part { return []part{text(&m.Name), text(&m.Value)} }},
		api.MiddleSet:     {"set", func(m *api.Middle) []part { return []part{text(&m.Name), text(&m.Value)} }},
		api.MiddleDrop:    {"drop", func(m *api.Middle) []part { return []part{text(&m.Name)} }},
		api.MiddleMethods: {"methods", func(m *api.Middle) []part { return []part{list(&m.List)} }},
		api.MiddleBody:    {"body", func(m *api.Middle) []part { return []part{number(&m.N)} }},
		api.MiddleStrip:   {"strip", func(m *api.Middle) []part { return []part{text(&m.Value)} }},
		api.MiddleBasic:   {"basic", func(m *api.Middle) []part { return []part{text(&m.Name), list(&m.List)} }},
		api.MiddleOrigin:  {"origin", func(m *api.Middle) []part { return []part{number(&m.N), text(&m.Value), list(&m.List)} }},
		api.MiddleCache:   {"cache", func(m *api.Middle) []part { return []part{text(&m.Value)} }},
		api.MiddleHost:    {"host", func(m *api.Middle) []part { return []part{list(&m.List)} }},
	}
}

// handlers is how handlers are told, by their kinds.
func handlers() []clause[api.Handler] {
	return []clause[api.Handler]{
		api.HandleText:     {"text", func(h *api.Handler) []part { return []part{number(&h.Status), text(&h.Media), text(&h.Text)} }},
		api.HandleStatus:   {"status", func(h *api.Handler) []part { return []part{number(&h.Status)} }},
		api.HandleRedirect: {"redirect", func(h *api.Handler) []part { return []part{number(&h.Status), text(&h.Text)} }},
		api.HandleEcho:     {"echo", func(h *api.Handler) []part { return nil }},
		api.HandleParams:   {"params", func(h *api.Handler) []part { return nil }},
		api.HandleStatic:   {"static", func(h *api.Handler) []part { return []part{text(&h.Name), number(&h.N)} }},
		api.HandleForm:     {"form", func(h *api.Handler) []part { return []part{number(&h.N)} }},
		api.HandleCount:    {"count", func(h *api.Handler) []part { return []part{text(&h.Name)} }},
		api.HandleSocket:   {"socket", func(h *api.Handler) []part { return nil }},
	}
}

// The clauses in a file's block, in the order in which they are written.
const (
	fileMedia = iota
	fileCoding
	fileLanguage
	fileTime
	fileBody
	fileClauses // how many there are
)

// fileWords is how a file is told, but for its path.
func fileWords() []clause[api.File] {
	return []clause[api.File]{
		fileMedia:    {"media", func(f *api.File) []part { return []part{text(&f.Media)} }},
		fileCoding:   {"coding", func(f *api.File) []part { return []part{text(&f.Coding)} }},
		fileLanguage: {"language", func(f *api.File) []part { return []part{text(&f.Language)} }},
		fileTime:     {"time", func(f *api.File) []part { return []part{number(&f.Time)} }},
		fileBody:     {"body", func(f *api.File) []part { return []part{text(&f.Body)} }},
	}
}

// isToldOf tells whether one of these is to be written of a file.
func isToldOf(f api.File, which int) bool {
	switch which {
	case fileCoding:
		return f.Coding != ""
	case fileLanguage:
		return f.Language != ""
	case fileTime:
		return f.Time != none
	}
	return true
}
