package chain

import (
	"slices"
	"strings"

	"turnpike/api"
	"turnpike/base"
	"turnpike/field"
	"turnpike/octet"
	"turnpike/target"
)

const slash = "/"

func aroundMethods(m api.Middle, next step) step {
	lets := func(r api.Request) bool { return slices.Contains(m.List, r.Method) }
	return guard(next, lets, methodNotAllowed, api.Field{Name: "Allow", Value: octet.Join(m.List)})
}

func aroundBody(m api.Middle, next step) step {
	lets := func(r api.Request) bool { return len(r.Body) <= m.N }
	return guard(next, lets, tooLarge)
}

func aroundBasic(m api.Middle, next step) step {
	lets := func(r api.Request) bool { return slices.Contains(m.List, credentials(r.Fields)) }
	realm, _ := octet.Quote(m.Name)
	return guard(next, lets, unauthorized, api.Field{Name: "WWW-Authenticate", Value: "Basic realm=" + realm + `, charset="UTF-8"`})
}

// credentials is what a request says of who asks; where it says nothing it is empty, as no right credentials are.
func credentials(l []api.Field) string {
	value, _ := only(l, "Authorization")
	scheme, text, _ := strings.Cut(value, " ")
	if !octet.Same(scheme, "Basic") {
		return ""
	}
	said, _, _ := base.Decode(strings.TrimLeft(text, " "))
	return said
}

func aroundHost(m api.Middle, next step) step {
	lets := func(r api.Request) bool { return slices.Contains(m.List, hostOf(r)) }
	return guard(next, lets, misdirected)
}

// hostOf is the host that a request is for; where there is none it is empty, as no host is.
func hostOf(r api.Request) string {
	t, _, _ := target.Parse(r.Method, r.Target)
	if t.Form == api.FormAbsolute {
		return t.Host
	}
	value, _ := only(r.Fields, "Host")
	host, _, _ := target.Authority(value)
	return host
}

// only is the value of the one field of a name, and whether there is just one.
func only(l []api.Field, name string) (string, bool) {
	values := field.All(l, name)
	if len(values) != 1 {
		return "", false
	}
	return values[0], true
}

func aroundStrip(m api.Middle, next step) step {
	return func(v *visit) step {
		text, has := stripped(v.request, m.Value)
		if !has {
			return v.answer(Plain(notFound, nil))
		}
		v.request.Target = text
		return next
	}
}

// stripped is the text of a request's target without the front of its path, if that is there.
func stripped(r api.Request, front string) (string, bool) {
	t, _, _ := target.Parse(r.Method, r.Target) // what is refused has an empty path
	rest, has := strings.CutPrefix(t.Path, front)
	if !has || rest != "" && !strings.HasPrefix(rest, slash) {
		return "", false
	}
	at := pathAt(t, r.Target)
	if rest == "" {
		rest = slash
	}
	return r.Target[:at] + rest + r.Target[at+len(t.Path):], true
}

// pathAt is where the path of a target stands in its text: ahead of the query, with which the text ends.
func pathAt(t api.Target, text string) int {
	at := len(text) - len(t.Path)
	if t.HasQuery {
		at -= len("?") + len(t.Query)
	}
	return at
}
