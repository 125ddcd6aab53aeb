package shelf_test

import (
	"fmt"
	"hash/fnv"
	"math/big"
	"regexp"
	"slices"
	"sort"
	"strings"

	"turnpike/accept"
	"turnpike/api"
)

// The words of the chapter as patterns over bytes, apart from the program's own.
const (
	smallToken   = "[!#$%&'*+.^_`|~0-9a-z-]+"
	token        = "[!#$%&'*+.^_`|~0-9A-Za-z-]+"
	quotedText   = `"(?:[\t \x21\x23-\x5b\x5d-\x7e\x{80}-\x{ff}]|\\["\\])*"`
	normalTriple = `%(?:[0189A-F][0-9A-F]|2[0-9A-CF]|3[A-F]|40|5[BCDE]|60|7[BCDF])`
	sign         = `(?:[A-Za-z0-9\-._~!$&'()*+,;=:@]|` + normalTriple + `)`
)

var (
	normalPath   = regexp.MustCompile(`\A(?:/` + sign + `*)*/` + sign + `+\z`)
	dots         = regexp.MustCompile(`/\.\.?(?:/|\z)`)
	mediaAll     = regexp.MustCompile(`\A` + smallToken + `/` + smallToken + `(?:; ` + smallToken + `=(?:` + token + `|` + quotedText + `))*\z`)
	quotedToken  = regexp.MustCompile(`="` + token + `"(?:;|\z)`)
	codingAll    = regexp.MustCompile(`\A(?:` + smallToken + `)?\z`)
	languageAll  = regexp.MustCompile(`\A(?:[A-Za-z]{1,8}(?:-[A-Za-z0-9]{1,8})*)?\z`)
	behindPoint  = regexp.MustCompile(`(?s)\.([^./]*)\z`)
	oneDirectory = regexp.MustCompile(`/[^/]*`)
)

// show is what is told of something that is not as it must be; not all, if it is long.
func show(x any) string { return fmt.Sprintf("%.300q", fmt.Sprintf("%+v", x)) }

// lists goes over all lists of at most so many elements, each of them out of one list.
func lists[T any](elements []T, most int) func(yield func([]T) bool) {
	return func(yield func([]T) bool) {
		level := [][]T{nil}
		for n := 0; ; n++ {
			for _, l := range level {
				if !yield(slices.Clone(l)) {
					return
				}
			}
			if n == most {
				return
			}
			var next [][]T
			for _, l := range level {
				for _, e := range elements {
					next = append(next, append(slices.Clip(l), e))
				}
			}
			level = next
		}
	}
}

// texts goes over all texts of at most so many pieces, each of them out of the list.
func texts(pieces []string, most int) func(yield func(string) bool) {
	return func(yield func(string) bool) {
		for l := range lists(pieces, most) {
			if !yield(strings.Join(l, "")) {
				return
			}
		}
	}
}

// everyByte is all bytes, each as a text.
func everyByte() []string {
	var l []string
	for c := range 256 {
		l = append(l, string([]byte{byte(c)}))
	}
	return l
}

// bytewise is a text in which each byte stands as a rune, as patterns want it.
func bytewise(s string) string {
	var b strings.Builder
	for _, c := range []byte(s) {
		b.WriteRune(rune(c))
	}
	return b.String()
}

// small is a text with small letters, of which only A to Z have others.
func small(s string) string {
	b := []byte(s)
	for i, c := range b {
		if 'A' <= c && c <= 'Z' {
			b[i] = c + 32
		}
	}
	return string(b)
}

// modelRight is the first of the chapter's words.
func modelRight(f api.File) bool {
	path, media := bytewise(f.Path), bytewise(f.Media)
	return normalPath.MatchString(path) && !dots.MatchString(path) && len(f.Path) <= 1024 &&
		mediaAll.MatchString(media) && !quotedToken.MatchString(media) &&
		codingAll.MatchString(bytewise(f.Coding)) && f.Coding != "identity" &&
		languageAll.MatchString(f.Language) &&
		f.Time >= -62135596800 && f.Time <= 253402300799
}

func modelAlike(a, b api.File) bool {
	return a.Path == b.Path && small(a.Media) == small(b.Media) && small(a.Coding) == small(b.Coding) && small(a.Language) == small(b.Language)
}

// modelNew is 17.1: it holds each file against all ahead of it.
func modelNew(l []api.File) (int, api.Errno) {
	for i, f := range l[:min(len(l), 4096)] {
		if !modelRight(f) {
			return i, api.ErrFile
		}
		if slices.ContainsFunc(l[:i], func(ahead api.File) bool { return modelAlike(ahead, f) }) {
			return i, api.ErrAgain
		}
	}
	if len(l) > 4096 {
		return 4096, api.ErrFile
	}
	return 0, api.OK
}

// modelMediaOf is 17.2.
func modelMediaOf(name string) string {
	found := behindPoint.FindStringSubmatch(bytewise(name))
	if found == nil {
		return "application/octet-stream"
	}
	media, known := medias[small(found[1])]
	if !known {
		return "application/octet-stream"
	}
	return media
}

var medias = map[string]string{
	"html": "text/html; charset=utf-8", "htm": "text/html; charset=utf-8", "txt": "text/plain; charset=utf-8",
	"css": "text/css", "js": "text/javascript", "json": "application/json", "xml": "application/xml",
	"svg": "image/svg+xml", "png": "image/png", "jpg": "image/jpeg", "jpeg": "image/jpeg", "gif": "image/gif",
	"ico": "image/x-icon", "pdf": "application/pdf", "wasm": "application/wasm", "zip": "application/zip",
}

// modelTag is 17.3.
func modelTag(f api.File) string {
	sum := fnv.New64a()
	sum.Write([]byte(strings.Join([]string{f.Media, f.Coding, f.Language, f.Body}, "\x00")))
	return fmt.Sprintf(`"%016x-%d"`, sum.Sum64(), len(f.Body))
}

// modelVariants is the first half of 17.4.
func modelVariants(l []api.File, path string) []int {
	var places []int
	for i, f := range l {
		if f.Path == path {
			places = append(places, i)
		}
	}
	return places
}

// modelEntries is the second half of 17.4: it takes each path apart at its slashes.
func modelEntries(l []api.File, path string) ([]string, bool) {
	entries := map[string]bool{}
	for _, f := range l {
		directory := "/"
		pieces := oneDirectory.FindAllString(f.Path, -1)
		for i, piece := range pieces {
			entry := piece[1:]
			if i < len(pieces)-1 {
				entry += "/"
			}
			if directory == path {
				entries[entry] = true
			}
			directory += entry
		}
	}
	var rising []string
	for entry := range entries {
		rising = append(rising, entry)
	}
	sort.Strings(rising)
	return rising, len(rising) > 0
}

// measure is how much something is liked, by whether it is chosen where just the words above some quality are liked; past 1000, if it is chosen whatever is liked.
func measure(l []api.Weight, chosen func([]api.Weight) bool) int {
	return sort.Search(1001, func(q int) bool {
		above := slices.Clone(l)
		for i := range above {
			if above[i].Quality > q {
				above[i].Quality = 1000
			} else {
				above[i].Quality = 0
			}
		}
		return !chosen(above)
	})
}

// modelLiking is the product of the three, by what accept chooses.
func modelLiking(f api.File, w api.Wish) *big.Int {
	product := big.NewInt(1)
	if ranges, err := accept.Ranges(w.Accept); w.HasAccept && err == api.OK {
		media, _ := accept.Parse(f.Media)
		product.Mul(product, big.NewInt(int64(accept.Liking(ranges, media))))
	} else {
		product.Mul(product, big.NewInt(1000))
	}
	if weights, err := accept.Weights(w.Coding); w.HasCoding && err == api.OK {
		coding := f.Coding
		if coding == "" {
			coding = "identity"
		}
		n := measure(weights, func(l []api.Weight) bool { return accept.ChooseCoding(l, true, []string{coding}) == 0 })
		if n > 1000 {
			n = 1
		}
		product.Mul(product, big.NewInt(int64(n)))
	} else {
		product.Mul(product, big.NewInt(1000))
	}
	weights, err := accept.Weights(w.Language)
	if f.Language != "" && w.HasLanguage && err == api.OK && len(weights) > 0 {
		n := measure(weights, func(l []api.Weight) bool { return accept.ChooseLanguage(l, []string{f.Language}) == 0 })
		return product.Mul(product, big.NewInt(int64(n)))
	}
	return product.Mul(product, big.NewInt(1000))
}

// modelFind is 17.5, sentence by sentence.
func modelFind(l []api.File, path string, w api.Wish) api.Found {
	variants := modelVariants(l, path)
	_, isDirectory := modelEntries(l, path)
	if len(variants) == 0 && isDirectory {
		variants = modelVariants(l, path+"index.html")
	}
	if len(variants) > 0 {
		return modelChoose(l, variants, w)
	}
	if isDirectory {
		return api.Found{Kind: 4, Path: path}
	}
	if _, is := modelEntries(l, path+"/"); is {
		return api.Found{Kind: 3, Path: path + "/"}
	}
	return api.Found{}
}

func modelChoose(l []api.File, variants []int, w api.Wish) api.Found {
	found := api.Found{Kind: 2}
	most := big.NewInt(0)
	media, coding, language := false, false, false
	for _, i := range variants {
		if liking := modelLiking(l[i], w); liking.Cmp(most) > 0 {
			found.Kind, found.File, most = 1, i, liking
		}
		for _, k := range variants {
			media = media || l[i].Media != l[k].Media
			coding = coding || l[i].Coding != l[k].Coding
			language = language || l[i].Language != l[k].Language
		}
	}
	if media {
		found.Vary = append(found.Vary, "Accept")
	}
	if coding {
		found.Vary = append(found.Vary, "Accept-Encoding")
	}
	if language {
		found.Vary = append(found.Vary, "Accept-Language")
	}
	return found
}

func same(a, b api.Found) bool {
	return a.Kind == b.Kind && a.File == b.File && a.Path == b.Path && slices.Equal(a.Vary, b.Vary)
}
