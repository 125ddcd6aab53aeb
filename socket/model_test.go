package socket_test

import (
	"encoding/binary"
	"fmt"
	"math/big"
	"regexp"
	"strings"

	"turnpike/api"
)

// The heads of frames as patterns over runes that stand for bytes of the same number, apart from the program's own.
var headPattern = regexp.MustCompile(`(?s)\A(.)(?:` +
	`([\x{00}-\x{7d}]|\x{7e}.{2}|\x{7f}.{8})|` +
	`([\x{80}-\x{fd}]|\x{fe}.{2}|\x{ff}.{8})(.{4}))`)

// modelKinds is the kinds of frames, and whether they are of control frames.
var modelKinds = map[int]bool{0: false, 1: false, 2: false, 8: true, 9: true, 10: true}

// runes is a text in which each byte is the rune of its number, and back is the text of it.
func runes(s string) string {
	var b strings.Builder
	for _, c := range []byte(s) {
		b.WriteRune(rune(c))
	}
	return b.String()
}

func back(s string) string {
	var b []byte
	for _, r := range s {
		b = append(b, byte(r))
	}
	return string(b)
}

// frameHead is a head as the chapter's words tell its parts.
type frameHead struct {
	first  byte
	length string // the length byte without 128, and more of the length
	masked bool
	mask   string
	all    int // bytes of it
}

func modelHead(s string) (frameHead, bool) {
	found := headPattern.FindStringSubmatch(runes(s[:min(len(s), 14)]))
	if found == nil {
		return frameHead{}, false
	}
	h := frameHead{first: back(found[1])[0], length: back(found[2] + found[3]), masked: found[3] != "", mask: back(found[4]), all: len(back(found[0]))}
	if h.masked {
		h.length = string([]byte{h.length[0] - 128}) + h.length[1:]
	}
	return h, true
}

// modelLength is a length in its shortest form.
func modelLength(n int) string {
	switch {
	case n <= 125:
		return string([]byte{byte(n)})
	case n <= 65535:
		return "\x7e" + string(binary.BigEndian.AppendUint16(nil, uint16(n)))
	}
	return "\x7f" + string(binary.BigEndian.AppendUint64(nil, uint64(n)))
}

// size is what the length says, however much that is.
func (h frameHead) size() *big.Int {
	if len(h.length) == 1 {
		return big.NewInt(int64(h.length[0]))
	}
	return new(big.Int).SetBytes([]byte(h.length[1:]))
}

func (h frameHead) isShortest() bool {
	n := h.size()
	return !n.IsInt64() || h.length == modelLength(int(n.Int64()))
}

func (h frameHead) isAbove(most int) bool { return h.size().Cmp(big.NewInt(int64(most))) > 0 }

// fault is the first of ErrReserved, ErrOpcode, ErrControl.
func (h frameHead) fault() api.Errno {
	control, known := modelKinds[int(h.first%16)]
	switch {
	case h.first/16%8 != 0:
		return api.ErrReserved
	case !known:
		return api.ErrOpcode
	case control && (h.first < 128 || h.length[0] > 125):
		return api.ErrControl
	}
	return api.OK
}

// modelMask masks a body, byte by byte.
func modelMask(body, mask string) string {
	var b strings.Builder
	for i := range len(body) {
		b.WriteByte(body[i] ^ mask[i%4])
	}
	return b.String()
}

// modelParse is 22.2, sentence by sentence.
func modelParse(s string, most int) (api.Frame, int, api.Errno) {
	if most < 0 {
		return api.Frame{}, 0, api.ErrArg
	}
	h, there := modelHead(s)
	if !there {
		return api.Frame{}, len(s), api.ErrPartial
	}
	if err := h.fault(); err != api.OK {
		return api.Frame{}, 0, err
	}
	if !h.isShortest() || !modelKinds[int(h.first%16)] && h.isAbove(most) {
		return api.Frame{}, 0, api.ErrSize
	}
	if h.isAbove(len(s) - h.all) {
		return api.Frame{}, len(s), api.ErrPartial
	}
	n := int(h.size().Int64())
	f := api.Frame{Fin: h.first >= 128, Masked: h.masked, Op: int(h.first % 16), Mask: h.mask, Body: s[h.all : h.all+n]}
	if h.masked {
		f.Body = modelMask(f.Body, h.mask)
	}
	return f, h.all + n, api.OK
}

// modelIsText is the word 'a text': each character's number is reckoned from the bits of its bytes.
func modelIsText(s string) bool {
	for s != "" {
		c, n := int(s[0]), 1
		least := 0
		switch {
		case c >= 0xf8 || c >= 0x80 && c < 0xc0:
			return false
		case c >= 0xf0:
			c, n, least = c-0xf0, 4, 1<<16
		case c >= 0xe0:
			c, n, least = c-0xe0, 3, 1<<11
		case c >= 0xc0:
			c, n, least = c-0xc0, 2, 1<<7
		}
		if len(s) < n {
			return false
		}
		for _, b := range []byte(s[1:n]) {
			if b/64 != 2 {
				return false
			}
			c = c*64 + int(b%64)
		}
		if c < least || c >= 55296 && c <= 57343 || c > 1114111 {
			return false
		}
		s = s[n:]
	}
	return true
}

// modelIsCode is the word 'a code'.
func modelIsCode(n int) bool {
	switch n {
	case 1000, 1001, 1002, 1003, 1007, 1008, 1009, 1010, 1011:
		return true
	}
	return n/1000 == 3 || n/1000 == 4
}

// modelParseClose is 22.3.
func modelParseClose(body string) (int, string, api.Errno) {
	if body == "" {
		return 1005, "", api.OK
	}
	if len(body) == 1 || len(body) > 125 {
		return 0, "", api.ErrClose
	}
	code := int(body[0])*256 + int(body[1])
	if !modelIsCode(code) {
		return 0, "", api.ErrClose
	}
	if !modelIsText(body[2:]) {
		return 0, "", api.ErrText
	}
	return code, body[2:], api.OK
}

// outcome is what a peer tells, and all that it said.
type outcome struct {
	said               string
	closed             bool
	code, held, echoed int
}

func (o outcome) String() string {
	return fmt.Sprintf("{%.60q of %d, closed %v with %d, %d held, %d echoed}", o.said, len(o.said), o.closed, o.code, o.held, o.echoed)
}

// modelSay is a frame as a peer says it.
func modelSay(kind int, body string) string {
	return string([]byte{128 + byte(kind)}) + modelLength(len(body)) + body
}

// modelPeer is 22.4 and 22.5 of all that came, read anew from the front.
func modelPeer(most int, in string) outcome {
	var o outcome
	var parts []string
	kind := 0
	closing := func(code int) outcome {
		o.closed, o.code, o.held = true, code, 0
		if code == 1005 {
			o.said += "\x88\x00"
		} else {
			o.said += string([]byte{0x88, 2, byte(code / 256), byte(code % 256)})
		}
		return o
	}
	for {
		message := strings.Join(parts, "")
		o.held = len(message) + len(in)
		h, there := modelHead(in)
		if !there {
			return o
		}
		op := int(h.first % 16)
		switch {
		case h.fault() != api.OK, !h.masked, !h.isShortest(), op == 0 && kind == 0, (op == 1 || op == 2) && kind != 0:
			return closing(1002)
		case !modelKinds[op] && h.isAbove(most-len(message)):
			return closing(1009)
		case h.isAbove(len(in) - h.all):
			return o
		}
		n := int(h.size().Int64())
		body := modelMask(in[h.all:h.all+n], h.mask)
		in = in[h.all+n:]
		switch op {
		case 8:
			code, _, err := modelParseClose(body)
			switch err {
			case api.ErrClose:
				return closing(1002)
			case api.ErrText:
				return closing(1007)
			}
			return closing(code)
		case 9:
			o.said += modelSay(10, body)
		case 0, 1, 2:
			parts = append(parts, body)
			kind = max(kind, op)
			if h.first < 128 {
				continue
			}
			message = strings.Join(parts, "")
			if kind == 1 && !modelIsText(message) {
				return closing(1007)
			}
			o.said += modelSay(kind, message)
			o.echoed++
			parts, kind = nil, 0
		}
	}
}
