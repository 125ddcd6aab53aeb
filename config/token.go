package config

import (
	"strings"

	"turnpike/api"
	"turnpike/octet"
)

// The kinds of tokens; where the text ends stands one of a kind of its own.
const (
	kindEnd = iota
	kindSign
	kindWord
	kindQuoted
)

const (
	opens = "{"
	shuts = "}"
	ends  = ";"
	signs = opens + shuts + ends

	note   = '#'
	quote  = '"'
	escape = '\\'
	apart  = signs + "#\"" // the signs, a note and a quoted text end a word as a blank does
)

// token is a piece of a text, and the place of its first byte.
type token struct {
	kind, at int
	says     string
}

func (t token) is(kind int, says string) bool { return t.kind == kind && t.says == says }

func (t token) isValue() bool { return t.kind == kindWord || t.kind == kindQuoted }

// scanner takes tokens off a text.
type scanner struct {
	text string
	at   int // where the text goes on
}

// scan takes the next token.
func (s *scanner) scan() token {
	s.pass()
	at := s.at
	switch {
	case at == len(s.text):
		return token{kindEnd, at, ""}
	case strings.IndexByte(signs, s.text[at]) >= 0:
		s.at++
		return token{kindSign, at, s.text[at:s.at]}
	case s.text[at] == quote:
		return token{kindQuoted, at, s.quoted()}
	case isOfWord(s.text[at]):
		return token{kindWord, at, s.plain()}
	}
	panic(stop{at, api.ErrSign})
}

// pass goes on to what is neither a blank nor in a note.
func (s *scanner) pass() {
	for s.at < len(s.text) {
		switch s.text[s.at] {
		case ' ', '\t', '\r', '\n':
			s.at++
		case note:
			line, _, _ := strings.Cut(s.text[s.at:], "\n")
			s.at += len(line)
		default:
			return
		}
	}
}

func isOfWord(c byte) bool {
	return '!' <= c && c <= '~' && strings.IndexByte(apart, c) < 0
}

// plain is a word, as far as it goes.
func (s *scanner) plain() string {
	from := s.at
	for s.at < len(s.text) && isOfWord(s.text[s.at]) {
		s.at++
	}
	return s.text[from:s.at]
}

// quoted is what a quoted text says.
func (s *scanner) quoted() string {
	var said strings.Builder
	s.at++
	for {
		switch c := s.within(); c {
		case quote:
			return said.String()
		case escape:
			said.WriteByte(s.escaped())
		default:
			said.WriteByte(c)
		}
	}
}

// within takes a byte of a quoted text, which cannot end ahead of it.
func (s *scanner) within() byte {
	if s.at == len(s.text) {
		panic(stop{s.at, api.ErrSign})
	}
	s.at++
	return s.text[s.at-1]
}

// escaped is the byte that is meant by what stands behind a backslash.
func (s *scanner) escaped() byte {
	switch c := s.within(); c {
	case quote, escape:
		return c
	case 'n':
		return '\n'
	case 'r':
		return '\r'
	case 't':
		return '\t'
	case 'x':
		high := s.digit()
		return high<<4 | s.digit()
	}
	panic(stop{s.at - 1, api.ErrSign})
}

// digit is a hexadecimal digit.
func (s *scanner) digit() byte {
	n, err := octet.Hex(string([]byte{s.within()}), 15)
	if err != api.OK {
		panic(stop{s.at - 1, api.ErrSign})
	}
	return byte(n)
}
