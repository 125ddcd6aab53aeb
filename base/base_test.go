package base_test

import (
	"encoding/base64"
	"encoding/hex"
	"math/rand"
	"strings"
	"testing"

	"turnpike/api"
	"turnpike/base"
)

const signs = "ABCDEFGHIJKLMNOPQRSTUVWXYZabcdefghijklmnopqrstuvwxyz0123456789+/"

// eachText calls f with every text of at most longest bytes out of letters.
func eachText(letters string, longest int, f func(string)) {
	f("")
	if longest == 0 {
		return
	}
	eachText(letters, longest-1, func(s string) {
		for i := range len(letters) {
			f(letters[i:i+1] + s)
		}
	})
}

// someTexts are texts of every length up to longest, of bytes of all values.
func someTexts(seed int64, longest int) []string {
	r := rand.New(rand.NewSource(seed))
	var out []string
	for n := range longest + 1 {
		p := make([]byte, n)
		r.Read(p)
		out = append(out, string(p))
	}
	return out
}

func allBytes() string {
	var p [256]byte
	for i := range p {
		p[i] = byte(i)
	}
	return string(p[:])
}

func checkDecoded(t *testing.T, s, want string) {
	t.Helper()
	if got, at, err := base.Decode(s); got != want || at != 0 || err != api.OK {
		t.Errorf("Decode(%q): %q, %d, %d; want %q, 0, OK", s, got, at, err, want)
	}
}

func checkNot64(t *testing.T, s string, place int) {
	t.Helper()
	if got, at, err := base.Decode(s); got != "" || at != place || err != api.Err64 {
		t.Errorf("Decode(%q): %q, %d, %d; want Err64 at %d", s, got, at, err, place)
	}
}

// 3.1: the chapter's examples.
func TestEncodeAndDecodeExamples(t *testing.T) {
	pairs := [][2]string{
		{"", ""}, {"f", "Zg=="}, {"fo", "Zm8="}, {"foo", "Zm9v"}, {"foob", "Zm9vYg=="},
		{"fooba", "Zm9vYmE="}, {"foobar", "Zm9vYmFy"}, {"\x00", "AA=="}, {"\x00\x00", "AAA="},
		{"\x00\x00\x00", "AAAA"}, {"\xff", "/w=="}, {"\xff\xff", "//8="}, {"\xff\xff\xff", "////"},
		{"\xfb\xef\xbe", "++++"},
	}
	for _, x := range pairs {
		if got := base.Encode(x[0]); got != x[1] {
			t.Errorf("Encode(%q): %q; want %q", x[0], got, x[1])
		}
		checkDecoded(t, x[1], x[0])
	}
	wrong := []struct {
		s     string
		place int
	}{
		{"Zh==", 2}, {"Zg=", 3}, {"Z", 1}, {"Zg==Z", 4}, {"Z g", 1}, {"Zm9=", 3}, {"=", 0},
		{"Zg", 2}, {"Zh", 2}, {"Zm9", 3}, {"Zm8=Zm9v", 4}, {"Zg===", 4}, {"Zm8==", 4}, {"Zm9v=", 4},
		{"Z=", 1}, {"Z===", 1}, {"====", 0}, {"Zg=Z", 3}, {"Zg= ", 3}, {"Zm9vZ", 5}, {"Zm9vZm9v!", 8},
		{"Zm9v\n", 4}, {"Zm9\nv", 3}, {"\r\n", 0}, {"Zm9v ", 4}, {"Z-==", 1}, {"_w==", 0}, {"Zg=\x00", 3},
		{"\xff", 0}, {"Zé==", 1}, {"Zm9vYmF=", 7}, {"Zm9vYh==", 6},
	}
	for _, x := range wrong {
		checkNot64(t, x.s, x.place)
	}
}

// 3.1: Encode is the text of base 64, at every length and of every byte.
func TestEncodeAgainstTheLibrary(t *testing.T) {
	texts := append(someTexts(1, 200), allBytes(), strings.Repeat("x", 100000))
	for i := range 256 {
		for _, tail := range []string{"", "\x00", "\xff", "a\x80"} {
			texts = append(texts, string([]byte{byte(i)})+tail, tail+string([]byte{byte(i)}))
		}
	}
	for _, s := range texts {
		want := base64.StdEncoding.EncodeToString([]byte(s))
		if got := base.Encode(s); got != want {
			t.Fatalf("Encode(%q): %q; want %q", s, got, want)
		}
		checkDecoded(t, want, s)
	}
}

// model64 knows, by its words alone, which texts are texts of base 64 and which are beginnings of one.
type model64 struct{ begins map[string]bool }

func (m model64) is(s string) bool {
	for i := range len(s) {
		if s[i] != '=' && strings.IndexByte(signs, s[i]) < 0 {
			return false
		}
	}
	_, err := base64.StdEncoding.Strict().DecodeString(s)
	return err == nil
}

// isBeginning tries all ways of going on that could matter: what follows a beginning may always be A or =.
func (m model64) isBeginning(s string) bool {
	if known, ok := m.begins[s]; ok {
		return known
	}
	found := false
	eachText("A=", 3, func(tail string) { found = found || m.is(s+tail) })
	m.begins[s] = found
	return found
}

// place is where s is no text of base 64; -1, if it is one.
func (m model64) place(s string) int {
	if m.is(s) {
		return -1
	}
	for i := range len(s) {
		if !m.isBeginning(s[:i+1]) {
			return i
		}
	}
	return len(s)
}

// 3.1: the place of the first byte with which a text is the beginning of none.
func TestDecodeOfAllShortTexts(t *testing.T) {
	m := model64{map[string]bool{}}
	eachText("AEQ/9= ", 6, func(s string) {
		place := m.place(s)
		if place >= 0 {
			checkNot64(t, s, place)
			return
		}
		want, _ := base64.StdEncoding.DecodeString(s)
		checkDecoded(t, s, string(want))
	})
}

// 3.1: which bits may be left hangs on every sign.
func TestDecodeOfAllSignsAheadOfTheEnd(t *testing.T) {
	for i := range len(signs) {
		one, two := "Z"+signs[i:i+1]+"==", "Zm"+signs[i:i+1]+"="
		if i%16 == 0 {
			checkDecoded(t, one, string([]byte{25<<2 | byte(i>>4)}))
		} else {
			checkNot64(t, one, 2)
		}
		if i%4 == 0 {
			checkDecoded(t, two, string([]byte{25<<2 | 38>>4, 38&15<<4 | byte(i>>2)}))
		} else {
			checkNot64(t, two, 3)
		}
	}
}

// 3.1: every byte that is no sign is a fault where it stands.
func TestDecodeOfEveryByte(t *testing.T) {
	for i := range 256 {
		c := string([]byte{byte(i)})
		if strings.Contains(signs, c) {
			continue
		}
		for place, ahead := range []string{"", "A", "AA", "AAA", "AAAA", "AAAAA", "AAAAAA", "AAAAAAA"} {
			if c == "=" && place%4 > 1 {
				continue
			}
			checkNot64(t, ahead+c, place)
			checkNot64(t, ahead+c+"AAAA", place)
			checkNot64(t, ahead+c+"\x00=", place)
		}
	}
}

func checkUnhexed(t *testing.T, s, want string) {
	t.Helper()
	if got, at, err := base.Unhex(s); got != want || at != 0 || err != api.OK {
		t.Errorf("Unhex(%q): %q, %d, %d; want %q, 0, OK", s, got, at, err, want)
	}
}

func checkNotHex(t *testing.T, s string, place int) {
	t.Helper()
	if got, at, err := base.Unhex(s); got != "" || at != place || err != api.ErrHex {
		t.Errorf("Unhex(%q): %q, %d, %d; want ErrHex at %d", s, got, at, err, place)
	}
}

// 3.2: Hex, and back.
func TestHexAndUnhex(t *testing.T) {
	if got := base.Hex("\x00\xfe"); got != "00fe" {
		t.Errorf("Hex: %q", got)
	}
	for _, s := range append(someTexts(2, 100), allBytes()) {
		want := hex.EncodeToString([]byte(s))
		if got := base.Hex(s); got != want {
			t.Fatalf("Hex(%q): %q; want %q", s, got, want)
		}
		checkUnhexed(t, want, s)
	}
}

// 3.2: a byte that is no digit comes ahead of an odd number of digits.
func TestUnhexOfWrongTexts(t *testing.T) {
	checkUnhexed(t, "", "")
	wrong := []struct {
		s     string
		place int
	}{
		{"0A", 1}, {"abc", 3}, {"a", 1}, {"A", 0}, {"G", 0}, {"0g0", 1}, {"0x10", 1}, {"00 ", 2}, {" 00", 0},
		{"abcdE", 4}, {"00\n", 2}, {"Aa", 0}, {"aZ!", 1}, {"00112", 5}, {"\xff\xff", 0}, {"0\x00", 1},
	}
	for _, x := range wrong {
		checkNotHex(t, x.s, x.place)
	}
	for i := range 256 {
		c := string([]byte{byte(i)})
		if strings.Contains("0123456789abcdef", c) {
			checkNotHex(t, c, 1)
			checkNotHex(t, "00"+c, 3)
			continue
		}
		for place, ahead := range []string{"", "0", "f0", "0af"} {
			checkNotHex(t, ahead+c, place)
			checkNotHex(t, ahead+c+"0", place)
			checkNotHex(t, ahead+c+c, place)
		}
	}
}

// 3.5: there and back, from both sides.
func TestThereAndBack(t *testing.T) {
	for _, s := range append(someTexts(3, 130), allBytes()) {
		checkDecoded(t, base.Encode(s), s)
		checkUnhexed(t, base.Hex(s), s)
	}
	eachText("AQ9v=", 5, func(s string) {
		if got, _, err := base.Decode(s); err == api.OK && base.Encode(got) != s {
			t.Errorf("Encode of Decode(%q): %q", s, base.Encode(got))
		}
	})
	eachText("0a9fA", 4, func(s string) {
		if got, _, err := base.Unhex(s); err == api.OK && base.Hex(got) != s {
			t.Errorf("Hex of Unhex(%q): %q", s, base.Hex(got))
		}
	})
}
