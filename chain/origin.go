package chain

import (
	"slices"

	"turnpike/api"
	"turnpike/field"
	"turnpike/octet"
)

func aroundOrigin(m api.Middle, next step) step {
	return func(v *visit) step {
		r := v.request
		allowed, varied := allowedOrigin(m.List, r.Fields), variedBy(m.List)
		method, asks := only(r.Fields, "Access-Control-Request-Method")
		if len(allowed) > 0 && r.Method == "OPTIONS" && asks {
			l := slices.Concat(allowed, allowances(m, method, r.Fields), varied)
			return v.answer(api.Response{Status: noContent, Fields: l})
		}
		return changing(next, laidBehind(slices.Concat(allowed, varied)...))
	}
}

// allowedOrigin is the field that lets an origin in; none, if it is not to be let in.
func allowedOrigin(origins []string, l []api.Field) []api.Field {
	origin, has := only(l, "Origin")
	switch {
	case !has:
		return nil
	case isForAll(origins):
		origin = anyOrigin
	case !slices.Contains(origins, origin):
		return nil
	}
	return []api.Field{{Name: "Access-Control-Allow-Origin", Value: origin}}
}

// variedBy is the field that says that answers differ by origins; none, if they don't.
func variedBy(origins []string) []api.Field {
	if isForAll(origins) {
		return nil
	}
	return []api.Field{{Name: "Vary", Value: "Origin"}}
}

// allowances is what else is told to whoever asks ahead of a request: methods, fields, and for how long that holds.
func allowances(m api.Middle, method string, asked []api.Field) []api.Field {
	if m.Value != "" {
		method = m.Value
	}
	l := []api.Field{{Name: "Access-Control-Allow-Methods", Value: method}}
	if names, has := field.Joined(asked, "Access-Control-Request-Headers"); has {
		l = append(l, api.Field{Name: "Access-Control-Allow-Headers", Value: names})
	}
	return append(l, api.Field{Name: "Access-Control-Max-Age", Value: octet.Digits(m.N)})
}
