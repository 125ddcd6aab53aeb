package config

import (
	"strings"

	"turnpike/api"
	"turnpike/octet"
)

const hexDigits = "0123456789abcdef"

// writer writes a configuration, statement by statement.
type writer struct{ strings.Builder }

// value writes a quoted text, with a space ahead.
func (w *writer) value(s string) {
	w.WriteString(" \"")
	for _, c := range []byte(s) {
		switch {
		case c == quote || c == escape:
			w.WriteByte(escape)
			w.WriteByte(c)
		case c < ' ' || c > '~':
			w.WriteString("\\x")
			w.WriteByte(hexDigits[c>>4])
			w.WriteByte(hexDigits[c&15])
		default:
			w.WriteByte(c)
		}
	}
	w.WriteString("\"")
}

func (w *writer) values(l []string) {
	for _, s := range l {
		w.value(s)
	}
}

func (w *writer) number(n int) { w.WriteString(" " + octet.Digits(n)) }

func (w *writer) statements(c api.Config) {
	for _, s := range settings()[settingName:] {
		if s.told(c) {
			s.write(w, &c)
			w.WriteString("\n")
		}
	}
	for _, m := range c.Middles {
		w.middle(m)
		w.WriteString("\n")
	}
	for _, x := range c.Routes {
		w.route(x)
	}
	for _, f := range c.Files {
		w.file(f)
	}
}

func (w *writer) middle(m api.Middle) {
	w.WriteString(wordMiddle + " ")
	middles()[m.Kind].write(w, &m)
}

func (w *writer) route(x api.Route) {
	w.WriteString(wordRoute)
	w.values(x.Methods)
	w.value(x.Pattern)
	w.WriteString(" " + opens + " ")
	for _, m := range x.Middles {
		w.middle(m)
		w.WriteString(" ")
	}
	handlers()[x.Handler.Kind].write(w, &x.Handler)
	w.WriteString(" " + shuts + "\n")
}

func (w *writer) file(f api.File) {
	w.WriteString(wordFile)
	w.value(f.Path)
	w.WriteString(" " + opens + " ")
	for which, c := range fileWords() {
		if isToldOf(f, which) {
			c.write(w, &f)
			w.WriteString(" ")
		}
	}
	w.WriteString(shuts + "\n")
}
