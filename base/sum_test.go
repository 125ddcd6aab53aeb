package base_test

import (
	"crypto/sha1"
	"encoding/base64"
	"hash/fnv"
	"math/rand"
	"strings"
	"testing"

	"turnpike/api"
	"turnpike/base"
)

func librarySha1(s string) string {
	sum := sha1.Sum([]byte(s))
	return string(sum[:])
}

// 3.3: Fnv by the examples and against the library.
func TestFnv(t *testing.T) {
	if got := base.Fnv(""); got != 14695981039346656037 {
		t.Errorf("Fnv of nothing: %d", got)
	}
	if got := base.Fnv("a"); got != 12638187200555641996 {
		t.Errorf("Fnv of a: %d", got)
	}
	for _, s := range append(someTexts(4, 150), allBytes()) {
		h := fnv.New64a()
		h.Write([]byte(s))
		if got := base.Fnv(s); got != h.Sum64() {
			t.Fatalf("Fnv(%q): %d; want %d", s, got, h.Sum64())
		}
	}
}

// 3.5: texts that differ in one byte differ in their Fnv.
func TestFnvOfTextsThatDifferInOneByte(t *testing.T) {
	for _, s := range []string{"\x00", "abc", "a longer text", strings.Repeat("\xff", 40)} {
		for i := range len(s) {
			seen := map[uint64]int{}
			for c := range 256 {
				h := base.Fnv(s[:i] + string([]byte{byte(c)}) + s[i+1:])
				if other, ok := seen[h]; ok {
					t.Fatalf("%q with %d and with %d at %d: one Fnv", s, other, c, i)
				}
				seen[h] = c
			}
		}
	}
}

// 3.3: Sha1 by the examples, and at every length about a piece's end.
func TestSha1(t *testing.T) {
	examples := [][2]string{
		{"abc", "a9993e364706816aba3e25717850c26c9cd0d89d"},
		{"", "da39a3ee5e6b4b0d3255bfef95601890afd80709"},
		{"abcdbcdecdefdefgefghfghighijhijkijkljklmklmnlmnomnopnopq", "84983e441c3bd26ebaae4aa1f95129e5e54670f1"},
		{strings.Repeat("a", 1000000), "34aa973cd4c4daa4f61eeb2bdbad27316534016f"},
	}
	for _, x := range examples {
		if got := base.Hex(base.Sha1(x[0])); got != x[1] {
			t.Errorf("Sha1 of %d bytes: %s; want %s", len(x[0]), got, x[1])
		}
	}
	for _, s := range append(someTexts(5, 300), allBytes(), strings.Repeat("\x80\x00", 5000)) {
		if got := base.Sha1(s); got != librarySha1(s) {
			t.Fatalf("Sha1(%q): %x", s, got)
		}
	}
}

// 3.3: the number of bits reaches past two bytes, and past three.
func TestSha1OfLongTexts(t *testing.T) {
	for _, n := range []int{8191, 8192, 8193, 1<<21 - 1, 1 << 21, 1<<21 + 57} {
		s := strings.Repeat("z", n)
		if got := base.Sha1(s); got != librarySha1(s) {
			t.Errorf("Sha1 of %d bytes: %x", n, got)
		}
	}
}

func checkAccepted(t *testing.T, key, want string) {
	t.Helper()
	if got, err := base.Accept(key); got != want || err != api.OK {
		t.Errorf("Accept(%q): %q, %d; want %q, OK", key, got, err, want)
	}
}

// 3.3: the answer to a key of just 16 bytes.
func TestAccept(t *testing.T) {
	checkAccepted(t, "dGhlIHNhbXBsZSBub25jZQ==", "s3pPLMBiTxaQ9kYGzzhZRbK+xOo=")
	for n, s := range someTexts(6, 40) {
		key := base64.StdEncoding.EncodeToString([]byte(s))
		if n == 16 {
			sum := librarySha1(key + "258EAFA5-E914-47DA-95CA-C5AB0DC85B11")
			checkAccepted(t, key, base64.StdEncoding.EncodeToString([]byte(sum)))
			continue
		}
		checkNoKey(t, key)
	}
}

func checkNoKey(t *testing.T, key string) {
	t.Helper()
	if got, err := base.Accept(key); got != "" || err != api.ErrSeed {
		t.Errorf("Accept(%q): %q, %d; want ErrSeed", key, got, err)
	}
}

// 3.3: what is no text of base 64 is no key, though it looks like one.
func TestAcceptOfWrongKeys(t *testing.T) {
	for _, key := range []string{
		"", "Zg==", "=", "the sample nonce", "dGhlIHNhbXBsZSBub25jZQ", "dGhlIHNhbXBsZSBub25jZQ=",
		"dGhlIHNhbXBsZSBub25jZR==", "dGhlIHNhbXBsZSBub25jZQ== ", " dGhlIHNhbXBsZSBub25jZQ==",
		"dGhlIHNhbXBsZSBub25jZQ==\n", "dGhlIHNhbXBsZSBub25jZQ===", "dGhlIHNhbXBsZSBub25j-Q==",
		"dGhlIHNhbXBsZSBub25jZQ==dGhlIHNhbXBsZSBub25jZQ==",
	} {
		checkNoKey(t, key)
	}
}

func newSum(t *testing.T) *base.Sum {
	t.Helper()
	x := base.New()
	if x == nil {
		t.Fatal("New: nil")
	}
	return x
}

func checkSum(t *testing.T, x *base.Sum, given string) {
	t.Helper()
	if got := x.Len(); got != len(given) {
		t.Errorf("Len: %d; want %d", got, len(given))
	}
	if got := x.Done(); got != librarySha1(given) {
		t.Errorf("Done behind %q: %x", given, got)
	}
}

// 3.4: a new Sum was given nothing, and an empty text gives it nothing.
func TestNewSum(t *testing.T) {
	x := newSum(t)
	checkSum(t, x, "")
	x.Write("")
	checkSum(t, x, "")
	x.Write("abc")
	x.Write("")
	checkSum(t, x, "abc")
}

// 3.4: it does not hang on how a text was cut, nor on when one asks.
func TestSumOfEveryCut(t *testing.T) {
	text := someTexts(7, 200)[200]
	for first := range len(text) + 1 {
		for _, second := range []int{0, 1, 55, 63, 64, 65, 127, 128} {
			end := min(first+second, len(text))
			x := newSum(t)
			x.Write(text[:first])
			x.Write(text[first:end])
			checkSum(t, x, text[:end])
			x.Write(text[end:])
			checkSum(t, x, text)
		}
	}
}

// 3.4: Done and Len change nothing, at every length.
func TestSumGoesOnBehindDone(t *testing.T) {
	text := someTexts(8, 260)[260]
	x := newSum(t)
	for i := range len(text) {
		checkSum(t, x, text[:i])
		checkSum(t, x, text[:i])
		x.Write(text[i : i+1])
	}
	checkSum(t, x, text)
}

// 3.4: two Sums know nothing of one another.
func TestSumsAreApart(t *testing.T) {
	r := rand.New(rand.NewSource(9))
	sums := [3]*base.Sum{newSum(t), newSum(t), newSum(t)}
	var given [3]string
	for range 500 {
		i, part := r.Intn(3), strings.Repeat(string(rune('a'+r.Intn(26))), r.Intn(90))
		sums[i].Write(part)
		given[i] += part
		for k := range sums {
			checkSum(t, sums[k], given[k])
		}
	}
}

// 3.4: a Sum that is copied as a value goes on by itself.
func TestSumCopiedAsAValue(t *testing.T) {
	x := newSum(t)
	x.Write(strings.Repeat("x", 100))
	y := *x
	x.Write(strings.Repeat("l", 100))
	y.Write(strings.Repeat("r", 100))
	checkSum(t, x, strings.Repeat("x", 100)+strings.Repeat("l", 100))
	checkSum(t, &y, strings.Repeat("x", 100)+strings.Repeat("r", 100))
}

// R1: a Sum that no call gave does not panic either.
func TestZeroSum(t *testing.T) {
	var x base.Sum
	x.Write(strings.Repeat("a", 130))
	if x.Len() != 130 || len(x.Done()) != 20 {
		t.Errorf("a zero Sum: %d, %x", x.Len(), x.Done())
	}
}
