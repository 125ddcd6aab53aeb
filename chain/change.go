package chain

import (
	"turnpike/api"
	"turnpike/field"
)

func aroundAdd(m api.Middle, next step) step {
	return changing(next, laidBehind(api.Field{Name: m.Name, Value: m.Value}))
}

func aroundSet(m api.Middle, next step) step { return aroundAdd(m, aroundDrop(m, next)) }

func aroundDrop(m api.Middle, next step) step {
	return changing(next, func(x api.Response) api.Response {
		x.Fields = field.Remove(x.Fields, m.Name)
		return x
	})
}

// laidBehind lays fields behind all that a response has.
func laidBehind(l ...api.Field) change {
	return func(x api.Response) api.Response {
		x.Fields = append(x.Fields, l...)
		return x
	}
}

func aroundCache(m api.Middle, next step) step {
	return func(v *visit) step {
		if !isRead(v.request.Method) {
			return next
		}
		return changing(next, toldOnce(api.Field{Name: "Cache-Control", Value: m.Value}))
	}
}

// toldOnce lays a field behind those of a response that may be kept, unless it has one of that name.
func toldOnce(f api.Field) change {
	return func(x api.Response) api.Response {
		if _, has := field.Find(x.Fields, f.Name); has || !isKept(x.Status) {
			return x
		}
		return laidBehind(f)(x)
	}
}

// isRead is whether a method asks for what is there, and no more.
func isRead(method string) bool { return method == "GET" || method == "HEAD" }

func isKept(status int) bool { return status == fine || status == notModified }
