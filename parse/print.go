package parse

import (
	"turnpike/api"
	"turnpike/chunk"
	"turnpike/field"
	"turnpike/octet"
)

// Print is a request as bytes.
func Print(r api.Request) (string, api.Errno) {
	switch {
	case !IsMethod(r.Method):
		return "", api.ErrMethod
	case !isTarget(r.Target):
		return "", api.ErrLine
	case !isVersion(r.Major, r.Minor):
		return "", api.ErrVersion
	}
	fields, err := field.Print(r.Fields)
	if err != api.OK {
		return "", err
	}
	body, err := printBody(r)
	if err != api.OK {
		return "", err
	}
	version := "HTTP/" + octet.Digits(r.Major) + "." + octet.Digits(r.Minor)
	return r.Method + " " + r.Target + " " + version + lineEnd + fields + lineEnd + body, api.OK
}

// printBody is the body as the fields frame it.
func printBody(r api.Request) (string, api.Errno) {
	framing, err := field.Framing(r.Fields, isOld(r))
	switch {
	case err != api.OK:
		return "", err
	case framing.Kind == api.FrameChunked:
		return chunk.Encode(r.Body, nil, r.Trailers)
	case len(r.Body) != framing.Length:
		return "", api.ErrBody
	case len(r.Trailers) > 0:
		return "", api.ErrFields
	}
	return r.Body, api.OK
}
