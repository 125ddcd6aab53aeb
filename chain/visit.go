package chain

import (
	"slices"

	"turnpike/api"
)

// visit is a request on its way through a chain, and the response on its way back.
type visit struct {
	request  api.Request
	response api.Response
	changes  []change // of the elements that handed the request on, the outermost first
}

// change is what an element does to a response that is handed back.
type change func(x api.Response) api.Response

// step does an element's part, and tells what the request is handed to then: nothing, if it is answered.
// The next step is told, not called, so that a chain of any length takes no more of the stack than a short one.
type step func(v *visit) step

// answer ends the way in.
func (v *visit) answer(x api.Response) step {
	v.response = x
	return nil
}

// answered is what comes back for a request from a step and all behind it.
func answered(first step, r api.Request) api.Response {
	v := &visit{request: r}
	for next := first; next != nil; {
		next = next(v)
	}
	for _, c := range slices.Backward(v.changes) {
		v.response = c(v.response)
	}
	return v.response
}

// changing hands each request on, and changes the response.
func changing(next step, c change) step {
	return func(v *visit) step {
		v.changes = append(v.changes, c)
		return next
	}
}

// guard hands on the requests that it lets through, and answers all others by a status and fields.
func guard(next step, lets func(r api.Request) bool, status int, l ...api.Field) step {
	return func(v *visit) step {
		if !lets(v.request) {
			return v.answer(Plain(status, l))
		}
		return next
	}
}

// ending is the last handler as a step.
func ending(last func(api.Request) api.Response) step {
	return func(v *visit) step {
		if last == nil {
			return v.answer(Plain(notFound, nil))
		}
		return v.answer(called(last, v.request))
	}
}

// called is what a handler from outside answers. The lists that it is given and gives are copied, so that neither side reaches the other's.
func called(last func(api.Request) api.Response, r api.Request) (x api.Response) {
	// A call of this layer never panics, whatever it is given: a handler that does has failed.
	defer func() {
		if recover() != nil {
			x = Plain(serverError, nil)
		}
	}()
	r.Fields, r.Trailers = slices.Clone(r.Fields), slices.Clone(r.Trailers)
	x = last(r)
	x.Fields = slices.Clone(x.Fields)
	return x
}
