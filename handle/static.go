package handle

import (
	"strings"

	"turnpike/api"
	"turnpike/field"
	"turnpike/octet"
	"turnpike/shelf"
	"turnpike/stamp"
	"turnpike/target"
)

const (
	slash    = "/"
	withList = 1  // of HandleStatic: directories are listed
	timeless = -1 // of a file: it has no time
)

// Wish is what a request's fields say of what is liked.
func Wish(l []api.Field) api.Wish {
	var w api.Wish
	w.Accept, w.HasAccept = field.Joined(l, "Accept")
	w.Coding, w.HasCoding = field.Joined(l, "Accept-Encoding")
	w.Language, w.HasLanguage = field.Joined(l, "Accept-Language")
	return w
}

func answerStatic(h api.Handler, a api.Asked, s *shelf.Shelf) api.Response {
	path, err := target.Normal(pathOf(h, a))
	if err != api.OK {
		return Plain(badRequest)
	}
	found := s.Find(path, Wish(a.Request.Fields))
	switch found.Kind {
	case api.FoundFile:
		return fileAnswer(s, found)
	case api.FoundUnliked:
		return Plain(notAcceptable, vary(found)...)
	case api.FoundSlash:
		return Plain(movedPermanently, api.Field{Name: "Location", Value: slashed(a.Target)})
	case api.FoundDirectory:
		if h.N == withList {
			return texted(listed(s, found.Path))
		}
	}
	return Plain(notFound)
}

// pathOf is the path that a handler of files looks for, as it was asked.
func pathOf(h api.Handler, a api.Asked) string {
	if h.Name == "" {
		return a.Target.Path
	}
	return slash + valueOf(a.Params, h.Name)
}

func fileAnswer(s *shelf.Shelf, found api.Found) api.Response {
	f, _ := s.File(found.File)
	text, _ := s.Tag(found.File)
	l := fieldUnlessEmpty("Content-Encoding", f.Coding)
	l = append(l, fieldUnlessEmpty("Content-Language", f.Language)...)
	l = append(l, api.Field{Name: "ETag", Value: text})
	if f.Time != timeless {
		date, _ := stamp.Print(f.Time)
		l = append(l, api.Field{Name: "Last-Modified", Value: date})
	}
	l = append(l, api.Field{Name: "Accept-Ranges", Value: "bytes"})
	return written(fine, f.Media, f.Body, append(l, vary(found)...)...)
}

// vary is the field of what a choice hangs on, if it hangs on anything.
func vary(found api.Found) []api.Field {
	return fieldUnlessEmpty("Vary", octet.Join(found.Vary))
}

func fieldUnlessEmpty(name, value string) []api.Field {
	if value == "" {
		return nil
	}
	return []api.Field{{Name: name, Value: value}}
}

// slashed is a target's path with a slash more, and its query.
func slashed(t api.Target) string {
	to := t.Path + slash
	if t.HasQuery {
		to += "?" + t.Query
	}
	return to
}

func listed(s *shelf.Shelf, directory string) string {
	var b strings.Builder
	entries, _ := s.Entries(directory)
	for _, entry := range entries {
		b.WriteString(entry + lineFeed)
	}
	return b.String()
}
