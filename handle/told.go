package handle

import (
	"strings"

	"turnpike/api"
	"turnpike/shelf"
	"turnpike/target"
)

func answerEcho(h api.Handler, a api.Asked, s *shelf.Shelf) api.Response {
	var b strings.Builder
	b.WriteString(a.Request.Method + " " + a.Request.Target + lineFeed)
	for _, f := range a.Request.Fields {
		b.WriteString(f.Name + ": " + f.Value + lineFeed)
	}
	b.WriteString(lineFeed + a.Request.Body)
	return texted(b.String())
}

func answerParams(h api.Handler, a api.Asked, s *shelf.Shelf) api.Response {
	var b strings.Builder
	for _, p := range a.Params {
		value, _, _ := target.Decode(p.Value)
		b.WriteString("path " + p.Name + "=" + target.Encode(value) + lineFeed)
	}
	if a.Target.HasQuery {
		pairs, _, _ := target.Query(a.Target.Query)
		b.WriteString(linesOf("query ", pairs))
	}
	return texted(b.String())
}

// linesOf is a line for each pair, with a word ahead.
func linesOf(word string, pairs []api.Param) string {
	var b strings.Builder
	for _, p := range pairs {
		b.WriteString(word + target.Encode(p.Name))
		if p.Has {
			b.WriteString("=" + target.Encode(p.Value))
		}
		b.WriteString(lineFeed)
	}
	return b.String()
}
