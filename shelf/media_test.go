package shelf_test

import (
	"strings"
	"testing"

	"turnpike/api"
	"turnpike/shelf"
)

const bytesMedia = "application/octet-stream"

func checkMediaOf(t *testing.T, name, want string) {
	t.Helper()
	if got := shelf.MediaOf(name); got != want {
		t.Fatalf("MediaOf(%.100q): %q; want %q", name, got, want)
	}
}

// 17.2: example 2.
func TestMediaOfExample(t *testing.T) {
	checkMediaOf(t, "x.HTML", "text/html; charset=utf-8")
	for _, name := range []string{"x.tar/gz", "x", "x."} {
		checkMediaOf(t, name, bytesMedia)
	}
}

// 17.2: all ends that the chapter names, and what is nearly one of them.
func TestMediaOfEnds(t *testing.T) {
	for end, want := range medias {
		for _, name := range []string{
			"." + end, "x." + end, "x.y." + end, "x.zip." + end, "/a/b." + end, "/a.css/b." + end, "a/." + end, "..." + end,
			"x." + strings.ToUpper(end), "x." + strings.ToUpper(end[:1]) + end[1:], strings.Repeat("x", 5000) + "." + end, "\xff\n." + end,
		} {
			checkMediaOf(t, name, want)
		}
		for _, name := range []string{
			end, "x" + end, "x." + end + ".", "x." + end + "/", "x." + end + "/x", "x." + end + " ", "x. " + end, "x.x" + end, "x." + end + "x",
			"x." + end[1:], "x/" + end, "./" + end, "x." + end + "?", "x." + end + "\x00", "x." + end + ".gz",
		} {
			checkMediaOf(t, name, bytesMedia)
		}
	}
	for _, name := range []string{"", ".", "..", "/", "./", "/.", "x.gz", "x.j\u017f", "x.\u212a", "x.z\u0131p", "x.z\u0130p", "x.G\u0130F", "\\x.y", "x.htmll", "x.ht"} {
		checkMediaOf(t, name, bytesMedia)
	}
}

// 17.2: all short texts, and each byte at each place of a name.
func TestMediaOfAgainstPattern(t *testing.T) {
	for s := range texts([]string{".", "/", "js", "on", "JS", "x", "\xff"}, 6) {
		checkMediaOf(t, s, modelMediaOf(s))
	}
	for end := range medias {
		name := "/x." + end
		for i := range name {
			for _, b := range everyByte() {
				for _, s := range []string{name[:i] + b + name[i:], name[:i] + b + name[i+1:], name + b} {
					checkMediaOf(t, s, modelMediaOf(s))
				}
			}
		}
	}
}

// 17.2: what a name tells is right for a file.
func TestMediaOfIsRight(t *testing.T) {
	for _, name := range []string{"html", "htm", "txt", "css", "js", "json", "xml", "svg", "png", "jpg", "jpeg", "gif", "ico", "pdf", "wasm", "zip", "", "other"} {
		checkRight(t, api.File{Path: "/a", Media: shelf.MediaOf("x." + name)}, true)
	}
}
