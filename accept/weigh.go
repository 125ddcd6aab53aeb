package accept

import (
	"slices"

	"turnpike/api"
	"turnpike/octet"
)

// Ranges reads a list of media ranges.
func Ranges(s string) ([]api.Range, api.Errno) { return readAll(s, readRange) }

// Weights reads a list of words with qualities.
func Weights(s string) ([]api.Weight, api.Errno) { return readAll(s, readWeight) }

// readAll reads a list whose elements are read one by one.
func readAll[T any](s string, read func(string) (T, api.Errno)) ([]T, api.Errno) {
	elements, err := octet.List(s)
	if err != api.OK {
		return nil, err
	}
	var l []T
	for _, element := range elements {
		one, err := read(element)
		if err != api.OK {
			return nil, err
		}
		l = append(l, one)
	}
	return l, api.OK
}

func readRange(s string) (api.Range, api.Errno) {
	m, ok := readMedia(s)
	own, rest := cutWeight(m.Params)
	if !ok || m.Type == anything && m.Sub != anything || !allValued(own) {
		return api.Range{}, api.ErrRange
	}
	q, err := weight(rest)
	if err != api.OK {
		return api.Range{}, err
	}
	m.Params = own
	return api.Range{Media: m, Quality: q}, api.OK
}

func readWeight(s string) (api.Weight, api.Errno) {
	name, params, ok := cutParams(s)
	if !ok || !octet.IsToken(name) {
		return api.Weight{}, api.ErrToken
	}
	_, rest := cutWeight(params)
	q, err := weight(rest)
	if err != api.OK {
		return api.Weight{}, err
	}
	return api.Weight{Name: octet.Lower(name), Quality: q}, api.OK
}

// cutWeight is the parameters ahead of the first q, and those from it on.
func cutWeight(l []api.Param) ([]api.Param, []api.Param) {
	at := slices.IndexFunc(l, func(p api.Param) bool { return p.Name == "q" })
	if at < 0 {
		return l, nil
	}
	return l[:at], l[at:]
}

// weight is what the q at the front says; without one, all is liked.
func weight(l []api.Param) (int, api.Errno) {
	if len(l) == 0 {
		return whole, api.OK
	}
	// A q without a value has the empty text, which is no quality's.
	return Quality(l[0].Value)
}
