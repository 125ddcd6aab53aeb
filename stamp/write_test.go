package stamp_test

import (
	"math"
	"testing"
	"time"

	"turnpike/api"
	"turnpike/stamp"
)

// layouts are the forms as the library writes them down, by their numbers.
var layouts = []string{
	api.FormFix:   "Mon, 02 Jan 2006 15:04:05 GMT",
	api.FormLong:  "Monday, 02-Jan-06 15:04:05 GMT",
	api.FormPlain: "Mon Jan _2 15:04:05 2006",
}

func checkNotWritten(t *testing.T, moment, form int, want api.Errno) {
	t.Helper()
	if s, err := stamp.Write(moment, form); s != "" || err != want {
		t.Errorf("Write(%d, %d): %q, %d; want error %d", moment, form, s, err, want)
	}
}

func TestWriteExamples(t *testing.T) {
	for form, want := range []string{"Sun, 06 Nov 1994 08:49:37 GMT", "Sunday, 06-Nov-94 08:49:37 GMT", "Sun Nov  6 08:49:37 1994"} {
		if s, err := stamp.Write(sample, form); s != want || err != api.OK {
			t.Errorf("Write(.., %d): %q, %d", form, s, err)
		}
	}
	if s, err := stamp.Print(sample); s != "Sun, 06 Nov 1994 08:49:37 GMT" || err != api.OK {
		t.Errorf("Print: %q, %d", s, err)
	}
	if s, _ := stamp.Print(api.MinMoment); s != "Mon, 01 Jan 0001 00:00:00 GMT" {
		t.Errorf("Print of the first moment: %q", s)
	}
	if s, _ := stamp.Print(api.MaxMoment); s != "Fri, 31 Dec 9999 23:59:59 GMT" {
		t.Errorf("Print of the last moment: %q", s)
	}
}

func TestWrite(t *testing.T) {
	for _, m := range someMoments() {
		d := time.Unix(int64(m), 0).UTC()
		for form, layout := range layouts {
			if s, err := stamp.Write(m, form); s != d.Format(layout) || err != api.OK {
				t.Fatalf("Write(%d, %d): %q, %d; want %q", m, form, s, err, d.Format(layout))
			}
		}
		if s, err := stamp.Print(m); s != d.Format(layouts[api.FormFix]) || err != api.OK {
			t.Fatalf("Print(%d): %q, %d", m, s, err)
		}
	}
}

func TestWriteFaults(t *testing.T) {
	for _, m := range []int{api.MinMoment - 1, api.MaxMoment + 1, math.MinInt, math.MaxInt} {
		if s, err := stamp.Print(m); s != "" || err != api.ErrMoment {
			t.Errorf("Print(%d): %q, %d", m, s, err)
		}
		for form := -1; form <= 3; form++ {
			checkNotWritten(t, m, form, api.ErrMoment)
		}
	}
	for _, form := range []int{-1, 3, math.MinInt, math.MaxInt} {
		checkNotWritten(t, sample, form, api.ErrStamp)
		checkNotWritten(t, 0, form, api.ErrStamp)
	}
}

// Of two moments the later one has the greater date, from its year on to its second.
func TestLaterIsGreater(t *testing.T) {
	said := func(s string) string { // a day's name left out, the rest by its weight
		month := time.Month(1)
		for month.String()[:3] != s[8:11] {
			month++
		}
		return s[12:16] + string(rune('a'+month)) + s[5:7] + s[17:25]
	}
	moments := someMoments()
	for i := 1; i < len(moments); i++ {
		a, b := moments[i-1], moments[i]
		s, _ := stamp.Print(a)
		u, _ := stamp.Print(b)
		if (a < b) != (said(s) < said(u)) || (a > b) != (said(s) > said(u)) {
			t.Fatalf("%d is %q, %d is %q", a, s, b, u)
		}
	}
}
