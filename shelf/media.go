package shelf

import (
	"strings"

	"turnpike/octet"
)

const (
	point   = "."
	unknown = "application/octet-stream"
)

// MediaOf is the media type of a name.
func MediaOf(name string) string {
	name = name[strings.LastIndex(name, slash)+1:]
	at := strings.LastIndex(name, point)
	if at < 0 {
		return unknown
	}
	return mediaOfEnd(octet.Lower(name[at+len(point):]))
}

// mediaOfEnd goes by what stands behind a name's last point, with small letters.
func mediaOfEnd(end string) string {
	switch end {
	case "html", "htm":
		return "text/html; charset=utf-8"
	case "txt":
		return "text/plain; charset=utf-8"
	case "css":
		return "text/css"
	case "js":
		return "text/javascript"
	case "json":
		return "application/json"
	case "xml":
		return "application/xml"
	case "svg":
		return "image/svg+xml"
	case "png":
		return "image/png"
	case "jpg", "jpeg":
		return "image/jpeg"
	case "gif":
		return "image/gif"
	case "ico":
		return "image/x-icon"
	case "pdf":
		return "application/pdf"
	case "wasm":
		return "application/wasm"
	case "zip":
		return "application/zip"
	}
	return unknown
}
