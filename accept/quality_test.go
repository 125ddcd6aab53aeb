package accept_test

import (
	"math"
	"strings"
	"testing"

	"turnpike/accept"
	"turnpike/api"
)

// 7.2, the example 2.
func TestQuality(t *testing.T) {
	for s, want := range map[string]int{
		"0.5": 500, "1.000": 1000, "0.": 0, "0": 0, "1": 1000, "1.": 1000, "1.0": 1000, "1.00": 1000,
		"0.0": 0, "0.00": 0, "0.000": 0, "0.001": 1, "0.01": 10, "0.05": 50, "0.1": 100, "0.10": 100, "0.123": 123, "0.999": 999,
	} {
		if got, err := accept.Quality(s); got != want || err != api.OK {
			t.Errorf("Quality(%q): %d, %d", s, got, err)
		}
	}
	for _, s := range []string{
		"1.001", "0.1234", ".5", "01", "", ".", "..", "1.1", "1.01", "1.0000", "0.0000", "00", "10", "2", "9", "0.5.", "0..5", "0.-1", "-0", "+1", "-1",
		" 1", "1 ", "0. 5", "0,5", "0.5a", "0x1", "1e0", "0.٥", "\x00", "/", ":", "0./", "0.:", "0.5\n", "100", "1000", "0.12\xff", "0.0x",
	} {
		if got, err := accept.Quality(s); got != 0 || err != api.ErrQuality {
			t.Errorf("Quality(%q): %d, %d", s, got, err)
		}
	}
}

// 7.2: all short texts, held against a pattern; and each byte at each place.
func TestQualityAgainstPattern(t *testing.T) {
	check := func(s string) {
		t.Helper()
		want, wantErr := modelQuality(s)
		if got, err := accept.Quality(s); got != want || err != wantErr {
			t.Fatalf("Quality(%q): %d, %d; want %d, %d", s, got, err, want, wantErr)
		}
	}
	for s := range texts([]string{"0", "1", "2", "9", ".", " ", "-"}, 6) {
		check(s)
	}
	for c := range 256 {
		b := string([]byte{byte(c)})
		for _, s := range []string{b, b + ".5", "0" + b, "1" + b, "0" + b + "5", "0." + b, "0.5" + b, "0.55" + b, "1.00" + b, "0.555" + b} {
			check(s)
		}
	}
}

// 7.2, the example 2; 7.10.
func TestPrintQuality(t *testing.T) {
	for q, want := range map[int]string{0: "0", 1000: "1", 500: "0.5", 50: "0.05", 5: "0.005", 1: "0.001", 10: "0.01", 100: "0.1", 110: "0.11", 101: "0.101", 999: "0.999", 990: "0.99"} {
		if got, err := accept.PrintQuality(q); got != want || err != api.OK {
			t.Errorf("PrintQuality(%d): %q, %d", q, got, err)
		}
	}
	for _, q := range []int{-1, 1001, -1000, 2000, -500, math.MinInt, math.MaxInt, math.MinInt + 1} {
		if got, err := accept.PrintQuality(q); got != "" || err != api.ErrQuality {
			t.Errorf("PrintQuality(%d): %q, %d", q, got, err)
		}
	}
}

// 7.2, 7.10: Quality of PrintQuality(q) is q, and no text that says q is shorter.
func TestPrintQualityIsShortest(t *testing.T) {
	shortest := map[int]int{}
	for s := range texts(strings.Split("0.123456789", ""), 5) {
		if q, err := accept.Quality(s); err == api.OK {
			if n, has := shortest[q]; !has || len(s) < n {
				shortest[q] = len(s)
			}
		}
	}
	if len(shortest) != 1001 {
		t.Fatal("qualities that have a text:", len(shortest))
	}
	for q := range 1001 {
		s, err := accept.PrintQuality(q)
		got, errBack := accept.Quality(s)
		if err != api.OK || errBack != api.OK || got != q || len(s) != shortest[q] {
			t.Errorf("PrintQuality(%d): %q, %d; read back: %d, %d", q, s, err, got, errBack)
		}
	}
}
