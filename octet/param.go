package octet

import (
	"strings"

	"turnpike/api"
)

// Params is the parameters at the front, and how many bytes they have.
func Params(s string) ([]api.Param, int, api.Errno) {
	var l []api.Param
	end := 0
	for {
		at := end + blankLength(s[end:])
		if at == len(s) || s[at] != ';' {
			return l, end, api.OK
		}
		end = at + 1
		at = end + blankLength(s[end:])
		p, n, err := readParam(s[at:])
		if err != api.OK {
			return nil, 0, err
		}
		if n > 0 {
			l = append(l, p)
			end = at + n
		}
	}
}

// Print is parameters as text.
func Print(l []api.Param) (string, api.Errno) {
	var b strings.Builder
	for _, p := range l {
		s, err := printParam(p)
		if err != api.OK {
			return "", err
		}
		b.WriteString(s)
	}
	return b.String(), api.OK
}

// readParam is the parameter at the front, and how many bytes it has; 0: there is none.
func readParam(s string) (api.Param, int, api.Errno) {
	n := tokenLength(s)
	p := api.Param{Name: s[:n]}
	if n == 0 || n == len(s) || s[n] != '=' {
		return p, n, api.OK
	}
	n++
	value, length, err := readValue(s[n:])
	if err != api.OK {
		return api.Param{}, 0, err
	}
	p.Value, p.Has = value, true
	return p, n + length, api.OK
}

func readValue(s string) (string, int, api.Errno) {
	if n := tokenLength(s); n > 0 {
		return s[:n], n, api.OK
	}
	value, n, err := Unquote(s)
	if err != api.OK {
		return "", 0, api.ErrParam
	}
	return value, n, api.OK
}

func printParam(p api.Param) (string, api.Errno) {
	switch {
	case !IsToken(p.Name), !p.Has && p.Value != "":
		return "", api.ErrParam
	case !p.Has:
		return "; " + p.Name, api.OK
	case IsToken(p.Value):
		return "; " + p.Name + "=" + p.Value, api.OK
	}
	quoted, err := Quote(p.Value)
	if err != api.OK {
		return "", api.ErrParam
	}
	return "; " + p.Name + "=" + quoted, api.OK
}
