package handle

import (
	"slices"
	"strings"

	"turnpike/accept"
	"turnpike/api"
	"turnpike/octet"
	"turnpike/sheet"
	"turnpike/shelf"
	"turnpike/target"
)

const nothing = "-" // stands where a part has no file, or no media type

func answerForm(h api.Handler, a api.Asked, s *shelf.Shelf) api.Response {
	m, err := accept.Parse(only(a.Request.Fields, "Content-Type"))
	if err != api.OK {
		return Plain(unsupported)
	}
	switch m.Type + slash + m.Sub {
	case "application/x-www-form-urlencoded":
		return pairsAnswer(a.Request.Body)
	case "multipart/form-data":
		at := slices.IndexFunc(m.Params, func(p api.Param) bool { return p.Name == "boundary" })
		if at >= 0 {
			return partsAnswer(m.Params[at].Value, a.Request.Body, h.N)
		}
	}
	return Plain(unsupported)
}

func pairsAnswer(body string) api.Response {
	pairs, _, err := sheet.Pairs(body)
	if err != api.OK {
		return Plain(badRequest)
	}
	return texted(linesOf("pair ", pairs))
}

func partsAnswer(boundary, body string, most int) api.Response {
	parts, _, err := sheet.Parse(boundary, body, most)
	if err == api.ErrParts {
		return Plain(tooLarge)
	}
	if err != api.OK {
		return Plain(badRequest)
	}
	var b strings.Builder
	for _, p := range parts {
		b.WriteString(lineOf(p))
	}
	return texted(b.String())
}

// lineOf tells a part without its bytes.
func lineOf(p api.Part) string {
	file, media := nothing, nothing
	if p.HasFile {
		file = target.Encode(p.File)
	}
	if p.Media != "" {
		media = target.Encode(p.Media)
	}
	return strings.Join([]string{"part", target.Encode(p.Name), file, media, octet.Digits(len(p.Body))}, " ") + lineFeed
}
