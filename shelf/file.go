package shelf

import (
	"strings"

	"turnpike/accept"
	"turnpike/api"
	"turnpike/base"
	"turnpike/octet"
	"turnpike/stamp"
	"turnpike/tag"
	"turnpike/target"
)

const (
	slash    = "/"
	identity = "identity"
	anything = "*"
	// apart stands in what is summed for a tag between parts that have no such byte, so that none runs over into the next.
	apart = "\x00"
)

// likeness is what no two files of a shelf have in common, with small letters where case does not count.
type likeness struct{ path, media, coding, language string }

func likenessOf(f api.File) likeness {
	return likeness{f.Path, octet.Lower(f.Media), octet.Lower(f.Coding), octet.Lower(f.Language)}
}

func isRight(f api.File) bool {
	return isFilePath(f.Path) && isMedia(f.Media) && isCoding(f.Coding) && isLanguage(f.Language) && isTime(f.Time)
}

func isFilePath(path string) bool {
	if len(path) > api.MaxFilePath || strings.HasSuffix(path, slash) {
		return false
	}
	normal, err := target.Normal(path)
	return err == api.OK && normal == path
}

// isMedia tells whether a text is printed just so.
func isMedia(text string) bool {
	m, err := accept.Parse(text)
	if err != api.OK {
		return false
	}
	printed, err := accept.Print(m)
	return err == api.OK && printed == text
}

func isCoding(coding string) bool {
	return coding == "" || octet.IsToken(coding) && octet.Lower(coding) == coding && coding != identity
}

// isLanguage asks which language is chosen where any one is liked: what is none is not.
func isLanguage(language string) bool {
	all := []api.Weight{{Name: anything, Quality: whole}}
	return language == "" || accept.ChooseLanguage(all, []string{language}) == 0
}

// isTime tells whether a number is a moment; -1, by which a file has none, is one as well.
func isTime(time int) bool {
	_, err := stamp.Split(time)
	return err == api.OK
}

func tagOf(f api.File) string {
	sum := base.Fnv(f.Media + apart + f.Coding + apart + f.Language + apart + f.Body)
	var b [8]byte
	for i := range b {
		b[len(b)-1-i] = byte(sum >> (8 * i))
	}
	// Digits, letters and a - may stand in a tag, and they are few: it is not refused.
	text, _ := tag.Print(api.Tag{Text: base.Hex(string(b[:])) + "-" + octet.Digits(len(f.Body))})
	return text
}
