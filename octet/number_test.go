package octet_test

import (
	"math"
	"math/big"
	"strings"
	"testing"

	"turnpike/api"
	"turnpike/octet"
)

// 1.2
func TestDigits(t *testing.T) {
	for n, want := range map[int]string{
		0: "0", 7: "7", 10: "10", -1: "-1", -10: "-10", 1000000: "1000000",
		math.MaxInt64: "9223372036854775807", math.MinInt64: "-9223372036854775808",
	} {
		if got := octet.Digits(n); got != want {
			t.Errorf("Digits(%d): %q", n, got)
		}
	}
}

type numberCase struct {
	s    string
	most int
	n    int
	err  api.Errno
}

func checkNumbers(t *testing.T, name string, call func(string, int) (int, api.Errno), cases []numberCase) {
	t.Helper()
	for _, x := range cases {
		if n, err := call(x.s, x.most); n != x.n || err != x.err {
			t.Errorf("%s(%q, %d): %d, %d; want %d, %d", name, x.s, x.most, n, err, x.n, x.err)
		}
	}
}

// 1.3
func TestDecimal(t *testing.T) {
	checkNumbers(t, "Decimal", octet.Decimal, []numberCase{
		{"007", 7, 7, api.OK},
		{"8", 7, 0, api.ErrBig},
		{"", 7, 0, api.ErrDigits},
		{"+1", 7, 0, api.ErrDigits},
		{"-1", 7, 0, api.ErrDigits},
		{"1 ", 7, 0, api.ErrDigits},
		{" 1", 7, 0, api.ErrDigits},
		{"1_0", 99, 0, api.ErrDigits},
		{"a", 99, 0, api.ErrDigits},
		{"1/", 99, 0, api.ErrDigits},
		{"1:", 99, 0, api.ErrDigits},
		{"\u0661", 99, 0, api.ErrDigits},
		{"0", 0, 0, api.OK},
		{"1", 0, 0, api.ErrBig},
		{"0", -1, 0, api.ErrBig},
		{"0", -10, 0, api.ErrBig},
		{"0", math.MinInt64, 0, api.ErrBig},
		{"", -1, 0, api.ErrDigits},
		{"x", -1, 0, api.ErrDigits},
		{"9x", 7, 0, api.ErrDigits},
		{"99999999999999999999x", 7, 0, api.ErrDigits},
		{"99999999999999999999", math.MaxInt64, 0, api.ErrBig},
		{"9223372036854775807", math.MaxInt64, math.MaxInt64, api.OK},
		{"9223372036854775808", math.MaxInt64, 0, api.ErrBig},
		{"9223372036854775806", math.MaxInt64 - 1, math.MaxInt64 - 1, api.OK},
		{"9223372036854775807", math.MaxInt64 - 1, 0, api.ErrBig},
		{"18446744073709551616", math.MaxInt64, 0, api.ErrBig},
		{"18446744073709551617", 5, 0, api.ErrBig},
		{strings.Repeat("0", 1000), 0, 0, api.OK},
		{strings.Repeat("0", 1000) + "12", 12, 12, api.OK},
		{strings.Repeat("0", 1000) + "13", 12, 0, api.ErrBig},
	})
}

// 1.3
func TestHex(t *testing.T) {
	checkNumbers(t, "Hex", octet.Hex, []numberCase{
		{"fF", 255, 255, api.OK},
		{"100", 255, 0, api.ErrBig},
		{"g", 99, 0, api.ErrDigits},
		{"G", 99, 0, api.ErrDigits},
		{"`", 99, 0, api.ErrDigits},
		{"@", 99, 0, api.ErrDigits},
		{"", 99, 0, api.ErrDigits},
		{"0x1", 99, 0, api.ErrDigits},
		{"-1", 99, 0, api.ErrDigits},
		{"0123456789", math.MaxInt64, 0x123456789, api.OK},
		{"abcdef", math.MaxInt64, 0xabcdef, api.OK},
		{"ABCDEF", math.MaxInt64, 0xabcdef, api.OK},
		{"0", -1, 0, api.ErrBig},
		{"0", -16, 0, api.ErrBig},
		{"fg", -1, 0, api.ErrDigits},
		{"000a", 10, 10, api.OK},
		{"b", 10, 0, api.ErrBig},
		{"7fffffffffffffff", math.MaxInt64, math.MaxInt64, api.OK},
		{"8000000000000000", math.MaxInt64, 0, api.ErrBig},
		{"10000000000000000", math.MaxInt64, 0, api.ErrBig},
		{"ffffffffffffffffffffffffffffffff", math.MaxInt64, 0, api.ErrBig},
		{"ffffffffffffffffffffz", math.MaxInt64, 0, api.ErrDigits},
	})
}

// 1.3: each byte, alone, to both bases.
func TestDigitBytes(t *testing.T) {
	for c := 0; c < 256; c++ {
		decimal := strings.IndexByte(digits, byte(c))
		hex := max(strings.IndexByte(digits+"abcdef", byte(c)), strings.IndexByte(digits+"ABCDEF", byte(c)))
		checkNumbers(t, "Decimal", octet.Decimal, []numberCase{oneByte(c, decimal)})
		checkNumbers(t, "Hex", octet.Hex, []numberCase{oneByte(c, hex)})
	}
}

// oneByte is what is asked of the byte c, which says n; below 0: nothing.
func oneByte(c, n int) numberCase {
	s := string([]byte{byte(c)})
	if n < 0 {
		return numberCase{s, 99, 0, api.ErrDigits}
	}
	return numberCase{s, 99, n, api.OK}
}

// 1.3: held against numbers without a limit, around every limit that is small or near to one that a sum could leave an int at.
func TestNumbersAgainstBig(t *testing.T) {
	mosts := []int{math.MinInt64, -17, -16, -11, -10, -9, -1, math.MaxInt64 - 17, math.MaxInt64 - 9, math.MaxInt64 - 1, math.MaxInt64}
	for most := range 260 {
		mosts = append(mosts, most)
	}
	for _, most := range mosts {
		for d := int64(-20); d <= 20; d++ {
			n := new(big.Int).Add(big.NewInt(int64(most)), big.NewInt(d))
			if n.Sign() < 0 {
				continue
			}
			x := numberCase{n.String(), most, 0, api.ErrBig}
			if d <= 0 {
				x = numberCase{n.String(), most, int(n.Int64()), api.OK}
			}
			checkNumbers(t, "Decimal", octet.Decimal, []numberCase{x})
			x.s = n.Text(16)
			checkNumbers(t, "Hex", octet.Hex, []numberCase{x})
		}
	}
}

// 1.10: Decimal(Digits(n), most) is n, for 0 <= n <= most.
func TestDecimalOfDigits(t *testing.T) {
	for _, most := range []int{0, 9, 10, 255, math.MaxInt64 - 1, math.MaxInt64} {
		for _, n := range []int{0, 1, 9, 10, 11, 99, 100, most / 10, most - 1, most} {
			if n < 0 || n > most {
				continue
			}
			if got, err := octet.Decimal(octet.Digits(n), most); got != n || err != api.OK {
				t.Errorf("Decimal(Digits(%d), %d): %d, %d", n, most, got, err)
			}
		}
	}
}
