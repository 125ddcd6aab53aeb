package sheet

import (
	"strings"

	"turnpike/api"
	"turnpike/octet"
)

const (
	boundarySigns = "ABCDEFGHIJKLMNOPQRSTUVWXYZabcdefghijklmnopqrstuvwxyz0123456789'()+_,-./:=?"
	maxBoundary   = 70
	ownBoundary   = "form" // ahead of a number
)

// IsBoundary tells whether a text is a boundary.
func IsBoundary(s string) bool {
	return s != "" && len(s) <= maxBoundary && strings.TrimLeft(s, boundarySigns) == ""
}

// Boundary is a boundary that stands in none of some parts.
func Boundary(l []api.Part) string {
	taken := takenNumbers(l)
	n := 0
	for {
		if _, ok := taken[n]; !ok {
			return ownBoundary + octet.Digits(n)
		}
		n++
	}
}

// takenNumbers is the numbers whose boundaries stand in some parts. Those above all their bytes are let be: there is no room for all below them.
func takenNumbers(l []api.Part) map[int]struct{} {
	room := 0
	for _, p := range l {
		for _, s := range textsOf(p) {
			room += len(s)
		}
	}
	taken := map[int]struct{}{}
	for _, p := range l {
		for _, s := range textsOf(p) {
			takeNumbers(taken, s, room)
		}
	}
	return taken
}

// takeNumbers adds the numbers, up to most, whose boundaries stand in a text.
func takeNumbers(taken map[int]struct{}, s string, most int) {
	_, rest, found := strings.Cut(s, dashes+ownBoundary)
	for found {
		for _, n := range numbersAtFront(rest, most) {
			taken[n] = struct{}{}
		}
		_, rest, found = strings.Cut(rest, dashes+ownBoundary)
	}
}

// numbersAtFront is the numbers, up to most, with whose digits a text begins: with a number each of its beginnings stands there, too; behind a 0 none goes on.
func numbersAtFront(s string, most int) []int {
	var l []int
	n := 0
	for _, c := range []byte(s) {
		if c < '0' || c > '9' {
			break
		}
		if n = n*10 + int(c-'0'); n > most {
			break
		}
		l = append(l, n)
		if n == 0 {
			break
		}
	}
	return l
}

// textsOf is all that a part says.
func textsOf(p api.Part) [4]string { return [4]string{p.Body, p.Name, p.File, p.Media} }

// hasMark tells whether -- and a boundary stand in what a part says.
func hasMark(p api.Part, mark string) bool {
	for _, s := range textsOf(p) {
		if strings.Contains(s, mark) {
			return true
		}
	}
	return false
}
