package socket_test

import (
	"fmt"
	"math"
	"slices"
	"strings"
	"testing"

	"turnpike/api"
	"turnpike/socket"
)

// show is a frame in few words.
func show(f api.Frame) string {
	return fmt.Sprintf("{Fin %v, Op %d, Masked %v by %q, %.60q of %d}", f.Fin, f.Op, f.Masked, f.Mask, f.Body, len(f.Body))
}

func checkPrint(t *testing.T, f api.Frame, want string, wantErr api.Errno) {
	t.Helper()
	if s, err := socket.Print(f); s != want || err != wantErr {
		t.Errorf("Print(%s): %.60q of %d, %d; want %.60q of %d, %d", show(f), s, len(s), err, want, len(want), wantErr)
	}
}

func checkParse(t *testing.T, s string, most int, want api.Frame, wantN int, wantErr api.Errno) {
	t.Helper()
	if f, n, err := socket.Parse(s, most); f != want || n != wantN || err != wantErr {
		t.Errorf("Parse(%.100q of %d, %d): %s, %d, %d; want %s, %d, %d", s, len(s), most, show(f), n, err, show(want), wantN, wantErr)
	}
}

// checkParseModel holds Parse against the model.
func checkParseModel(t *testing.T, s string, most int) {
	t.Helper()
	f, n, err := modelParse(s, most)
	checkParse(t, s, most, f, n, err)
}

func checkMask(t *testing.T, body, mask, want string) {
	t.Helper()
	if s := socket.Mask(body, mask); s != want {
		t.Errorf("Mask(%.60q, %q): %.60q; want %.60q", body, mask, s, want)
	}
}

// 22.1: frames without a mask and with one.
func TestPrint(t *testing.T) {
	checkPrint(t, api.Frame{Fin: true, Op: api.OpText, Body: "Hi"}, "\x81\x02Hi", api.OK)
	checkPrint(t, api.Frame{Fin: true, Op: api.OpText, Body: "Hi", Masked: true, Mask: "\x01\x02\x03\x04"}, "\x81\x82\x01\x02\x03\x04\x49\x6b", api.OK)
	checkPrint(t, api.Frame{Op: api.OpText, Body: "Hi"}, "\x01\x02Hi", api.OK)
	checkPrint(t, api.Frame{}, "\x00\x00", api.OK)
	checkPrint(t, api.Frame{Fin: true}, "\x80\x00", api.OK)
	checkPrint(t, api.Frame{Op: api.OpBytes, Body: "\x00\xff"}, "\x02\x02\x00\xff", api.OK)
	checkPrint(t, api.Frame{Fin: true, Op: api.OpClose}, "\x88\x00", api.OK)
	checkPrint(t, api.Frame{Fin: true, Op: api.OpPing, Body: "p"}, "\x89\x01p", api.OK)
	checkPrint(t, api.Frame{Fin: true, Op: api.OpPong, Masked: true, Mask: "\x00\x00\x00\x00"}, "\x8a\x80\x00\x00\x00\x00", api.OK)
	checkPrint(t, api.Frame{Fin: true, Op: api.OpText, Body: "abcde", Masked: true, Mask: "    "}, "\x81\x85    ABCDE", api.OK)
}

// 22.1: each length in its shortest form, the highest byte first.
func TestPrintLengths(t *testing.T) {
	for _, c := range []struct {
		n    int
		want string
	}{
		{0, "\x00"}, {1, "\x01"}, {124, "\x7c"}, {125, "\x7d"},
		{126, "\x7e\x00\x7e"}, {127, "\x7e\x00\x7f"}, {128, "\x7e\x00\x80"}, {255, "\x7e\x00\xff"}, {256, "\x7e\x01\x00"}, {0x1234, "\x7e\x12\x34"}, {65534, "\x7e\xff\xfe"}, {65535, "\x7e\xff\xff"},
		{65536, "\x7f\x00\x00\x00\x00\x00\x01\x00\x00"}, {65537, "\x7f\x00\x00\x00\x00\x00\x01\x00\x01"}, {0x123456, "\x7f\x00\x00\x00\x00\x00\x12\x34\x56"}, {0x1234567, "\x7f\x00\x00\x00\x00\x01\x23\x45\x67"},
	} {
		body := strings.Repeat("b", c.n)
		checkPrint(t, api.Frame{Op: api.OpBytes, Body: body}, "\x02"+c.want+body, api.OK)
		checkParse(t, "\x02"+c.want+body+"more", c.n, api.Frame{Op: api.OpBytes, Body: body}, 1+len(c.want)+c.n, api.OK)
		masked := string([]byte{c.want[0] + 128}) + c.want[1:]
		checkPrint(t, api.Frame{Fin: true, Masked: true, Mask: "\x01\x01\x01\x01", Body: body}, "\x80"+masked+"\x01\x01\x01\x01"+strings.Repeat("c", c.n), api.OK)
	}
}

// 22.1: the first error of those that apply.
func TestPrintRefuses(t *testing.T) {
	long := strings.Repeat("b", 126)
	for op := -300; op <= 300; op++ {
		_, known := modelKinds[op]
		want, wantErr := "", api.ErrOpcode
		if known {
			want, wantErr = string([]byte{128 + byte(op)})+"\x00", api.OK
		}
		checkPrint(t, api.Frame{Fin: true, Op: op}, want, wantErr)
		if !known {
			checkPrint(t, api.Frame{Op: op, Masked: true, Body: long}, "", api.ErrOpcode)
		}
	}
	for _, op := range []int{math.MinInt, math.MaxInt, 1 << 32, 1<<32 + 1, 256 + 8} {
		checkPrint(t, api.Frame{Fin: true, Op: op}, "", api.ErrOpcode)
	}
	for op := range modelKinds {
		for n := range 10 {
			mask := "abcdefghi"[:n]
			if n != 4 {
				checkPrint(t, api.Frame{Fin: true, Op: op, Masked: true, Mask: mask}, "", api.ErrMask)
				checkPrint(t, api.Frame{Op: op, Masked: true, Mask: mask, Body: long}, "", api.ErrMask)
			}
			if n != 0 {
				checkPrint(t, api.Frame{Fin: true, Op: op, Mask: mask}, "", api.ErrMask)
				checkPrint(t, api.Frame{Op: op, Mask: mask, Body: long}, "", api.ErrMask)
			}
		}
	}
	for _, op := range []int{api.OpClose, api.OpPing, api.OpPong} {
		checkPrint(t, api.Frame{Op: op}, "", api.ErrControl)
		checkPrint(t, api.Frame{Op: op, Masked: true, Mask: "abcd"}, "", api.ErrControl)
		checkPrint(t, api.Frame{Fin: true, Op: op, Body: long}, "", api.ErrControl)
		checkPrint(t, api.Frame{Fin: true, Op: op, Body: long, Masked: true, Mask: "abcd"}, "", api.ErrControl)
		checkPrint(t, api.Frame{Fin: true, Op: op, Body: long[1:]}, string([]byte{128 + byte(op)})+"\x7d"+long[1:], api.OK)
	}
	for _, op := range []int{api.OpMore, api.OpText, api.OpBytes} {
		checkPrint(t, api.Frame{Op: op, Body: long}, string([]byte{byte(op)})+"\x7e\x00\x7e"+long, api.OK)
	}
}

// 22.1: a mask has four bytes, and is gone through again and again.
func TestMask(t *testing.T) {
	checkMask(t, "Hi", "\x01\x02\x03\x04", "\x49\x6b")
	checkMask(t, "abcdefghi", "\x01\x02\x04\x80", "``g\xe4ddc\xe8h")
	checkMask(t, "", "abcd", "")
	checkMask(t, "\x00\xff\x0f\xf0\x55", "\xff\xff\xff\xff", "\xff\x00\xf0\x0f\xaa")
	for _, mask := range []string{"", "a", "abc", "abcde", "abcdabcd"} {
		checkMask(t, "body", mask, "body")
	}
	for n := range 300 {
		body := strings.Repeat("\x00\x10\xa7", n)[:n]
		checkMask(t, body, "\x80w\x00z", modelMask(body, "\x80w\x00z"))
		checkMask(t, socket.Mask(body, "\x80w\x00z"), "\x80w\x00z", body)
	}
}

// 22.2: the frame that begins a text, and how many bytes it has.
func TestParse(t *testing.T) {
	checkParse(t, "\x81\x02Hix", 9, api.Frame{Fin: true, Op: api.OpText, Body: "Hi"}, 4, api.OK)
	checkParse(t, "\x81\x82\x01\x02\x03\x04\x49\x6b", 2, api.Frame{Fin: true, Op: api.OpText, Body: "Hi", Masked: true, Mask: "\x01\x02\x03\x04"}, 8, api.OK)
	checkParse(t, "\x00\x00\x00\x00", 0, api.Frame{}, 2, api.OK)
	checkParse(t, "\x8a\x80abcd", 0, api.Frame{Fin: true, Op: api.OpPong, Masked: true, Mask: "abcd"}, 6, api.OK)
	checkParse(t, "\x81\x02Hi", 1, api.Frame{}, 0, api.ErrSize)
	checkParse(t, "\x81\x02Hi", 2, api.Frame{Fin: true, Op: api.OpText, Body: "Hi"}, 4, api.OK)
	checkParse(t, "\x81\x02Hi", math.MaxInt, api.Frame{Fin: true, Op: api.OpText, Body: "Hi"}, 4, api.OK)
	checkParse(t, "", 9, api.Frame{}, 0, api.ErrPartial)
	checkParse(t, "\x81", 9, api.Frame{}, 1, api.ErrPartial)
	checkParse(t, "\x81\x02", 9, api.Frame{}, 2, api.ErrPartial)
	checkParse(t, "\x81\x02H", 9, api.Frame{}, 3, api.ErrPartial)
	checkParse(t, "\xc1\x00", 9, api.Frame{}, 0, api.ErrReserved)
	checkParse(t, "\x83\x00", 9, api.Frame{}, 0, api.ErrOpcode)
	checkParse(t, "\x81\x7e\x00\x01a", 9, api.Frame{}, 0, api.ErrSize)
	for _, most := range []int{-1, -2, math.MinInt} {
		for _, s := range []string{"", "\x81", "\x81\x00", "\xff\xff", "\x89\x7e\x00\x00"} {
			checkParse(t, s, most, api.Frame{}, 0, api.ErrArg)
		}
	}
}

// 22.2: nothing is wrong with a head that is not all there.
func TestParsePartialHeads(t *testing.T) {
	for _, head := range []string{"\xff\x00", "\x03\x80abcd", "\x09\x01", "\x89\x7e\x00\x01", "\x81\x7e\x00\x01", "\x81\xfe\x00\x01abcd", "\xf1\xff\x00\x00\x00\x00\x00\x00\x00\x01abcd", "\x81\x7f\xff\xff\xff\xff\xff\xff\xff\xff", "\x88\xff\x00\x00\x00\x00\x00\x00\x00\x01abcd", "\x81\x0a"} {
		for n := range len(head) {
			checkParse(t, head[:n], 9, api.Frame{}, n, api.ErrPartial)
		}
		_, n, err := socket.Parse(head, 9)
		if n != 0 || err == api.OK || err == api.ErrPartial {
			t.Errorf("Parse(%q): %d, %d", head, n, err)
		}
	}
}

// 22.2: of a head that is all there the first thing that is wrong, whether the body is there or not.
func TestParseRefuses(t *testing.T) {
	for first := range 256 {
		for second := range 256 {
			for _, rest := range []string{"", "abcd", strings.Repeat("\x00", 12), "\x00\x7e" + strings.Repeat("x", 130), "\x00\x7dabcd" + strings.Repeat("x", 130), "\x00\x00\x00\x00\x00\x01\x00\x00abcdef", strings.Repeat("\xff", 12)} {
				for _, most := range []int{0, 9, 126, 70000} {
					checkParseModel(t, string([]byte{byte(first), byte(second)})+rest, most)
				}
			}
		}
	}
}

// 22.2: a length in another form than the shortest is wrong, and one that is too long, however long it may be.
func TestParseLengths(t *testing.T) {
	text := api.Frame{Fin: true, Op: api.OpText}
	for n := range 400 {
		two := "\x81\x7e" + string([]byte{byte(n / 256), byte(n % 256)}) + strings.Repeat("a", n)
		eight := "\x81\x7f\x00\x00\x00\x00\x00\x00" + two[2:]
		f := text
		f.Body = strings.Repeat("a", n)
		if n < 126 {
			checkParse(t, two, 400, api.Frame{}, 0, api.ErrSize)
		} else {
			checkParse(t, two, 400, f, 4+n, api.OK)
			checkParse(t, two, n, f, 4+n, api.OK)
			checkParse(t, two, n-1, api.Frame{}, 0, api.ErrSize)
			checkParse(t, two[:len(two)-1], n, api.Frame{}, 3+n, api.ErrPartial)
		}
		checkParse(t, eight, 400, api.Frame{}, 0, api.ErrSize)
	}
	checkParse(t, "\x81\x7f\x00\x00\x00\x00\x00\x00\xff\xff", math.MaxInt, api.Frame{}, 0, api.ErrSize)
	checkParse(t, "\x81\x7f\x00\x00\x00\x00\x00\x01\x00\x00", 65536, api.Frame{}, 10, api.ErrPartial)
	checkParse(t, "\x81\x7f\x00\x00\x00\x00\x00\x01\x00\x00", 65535, api.Frame{}, 0, api.ErrSize)
	for i := range 6 { // each byte of eight has its weight
		more := make([]byte, 8)
		more[i] = 1
		n := 1 << (8 * (7 - i))
		checkParse(t, "\x82\x7f"+string(more), n, api.Frame{}, 10, api.ErrPartial)
		checkParse(t, "\x82\x7f"+string(more), n-1, api.Frame{}, 0, api.ErrSize)
	}
	checkParse(t, "\x81\x7f\x7f\xff\xff\xff\xff\xff\xff\xff", math.MaxInt, api.Frame{}, 10, api.ErrPartial)
	checkParse(t, "\x81\x7f\x7f\xff\xff\xff\xff\xff\xff\xff", math.MaxInt-1, api.Frame{}, 0, api.ErrSize)
	checkParse(t, "\x81\x7f\x80\x00\x00\x00\x00\x00\x00\x00", math.MaxInt, api.Frame{}, 0, api.ErrSize)
	checkParse(t, "\x81\x7f\x80\x00\x00\x00\x00\x00\x00\x02Hi", math.MaxInt, api.Frame{}, 0, api.ErrSize)
	checkParse(t, "\x81\x7f\xff\xff\xff\xff\xff\xff\xff\xff", math.MaxInt, api.Frame{}, 0, api.ErrSize)
}

// 22.2: a control frame may have its length with any most, and no more than 125 bytes in any form.
func TestParseControl(t *testing.T) {
	for _, op := range []int{api.OpClose, api.OpPing, api.OpPong} {
		first := string([]byte{128 + byte(op)})
		for _, n := range []int{0, 1, 124, 125} {
			body := strings.Repeat("c", n)
			for _, most := range []int{0, 1, n, 200} {
				checkParse(t, first+string([]byte{byte(n)})+body, most, api.Frame{Fin: true, Op: op, Body: body}, 2+n, api.OK)
			}
		}
		checkParse(t, first+"\x7e\x00\x01c", 200, api.Frame{}, 0, api.ErrControl)
		checkParse(t, first+"\x7e\x00\x7e"+strings.Repeat("c", 126), 200, api.Frame{}, 0, api.ErrControl)
		checkParse(t, first+"\x7f\x00\x00\x00\x00\x00\x00\x00\x01c", 200, api.Frame{}, 0, api.ErrControl)
		checkParse(t, string([]byte{byte(op)})+"\x00", 200, api.Frame{}, 0, api.ErrControl)
		checkParse(t, first+"\x05cc", 0, api.Frame{}, 4, api.ErrPartial)
	}
}

// 22.7 (T8): what is printed is read back, whatever stands behind it, and of each beginning more is wanted.
func TestThereAndBack(t *testing.T) {
	for op, control := range modelKinds {
		for _, n := range []int{0, 1, 2, 3, 4, 5, 125, 126, 127, 65535, 65536, 70001} {
			for _, mask := range []string{"", "\x00\x00\x00\x00", "\x01\x02\x03\x04", "\xff\x80\x7f\x00"} {
				for _, fin := range []bool{true, false} {
					f := api.Frame{Fin: fin, Masked: mask != "", Op: op, Mask: mask, Body: strings.Repeat("\x00ab\xff8", n/5+1)[:n]}
					s, err := socket.Print(f)
					if control && (!fin || n > 125) {
						if s != "" || err != api.ErrControl {
							t.Errorf("Print(%s): %q, %d", show(f), s, err)
						}
						continue
					}
					if err != api.OK {
						t.Errorf("Print(%s): %d", show(f), err)
					}
					for _, behind := range []string{"", "\x00", "\xff\xff\xff", s} {
						checkParse(t, s+behind, n, f, len(s), api.OK)
						checkParse(t, s+behind, math.MaxInt, f, len(s), api.OK)
					}
					for _, cut := range slices.Concat([]int{0, 1, 2, 3, 4, 5, 6, 7, 8, 9, 10, 11, 12, 13, 14}, []int{len(s) / 2, len(s) - 1}) {
						if cut < len(s) {
							checkParse(t, s[:cut], n, api.Frame{}, cut, api.ErrPartial)
						}
					}
				}
			}
		}
	}
}
