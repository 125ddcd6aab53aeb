package stamp_test

import (
	"math"
	"math/rand"
	"strconv"
	"strings"
	"testing"
	"time"

	"turnpike/api"
	"turnpike/stamp"
)

const fixSample = "Sun, 06 Nov 1994 08:49:37 GMT"

// answer is all that Parse answers.
type answer struct {
	moment, form int
	err          api.Errno
	at           int
}

func parse(s string, now int) answer {
	m, form, err, at := stamp.Parse(s, now)
	return answer{m, form, err, at}
}

func fault(err api.Errno, at int) answer { return answer{err: err, at: at} }

func checkParse(t *testing.T, s string, now int, want answer) {
	t.Helper()
	if got := parse(s, now); got != want {
		t.Errorf("Parse(%q, %d): %+v; want %+v", s, now, got, want)
	}
}

// year is the beginning of one.
func year(y int) int { return int(time.Date(y, 1, 1, 0, 0, 0, 0, time.UTC).Unix()) }

func TestParseExamples(t *testing.T) {
	for form, s := range []string{fixSample, "Sunday, 06-Nov-94 08:49:37 GMT", "Sun Nov  6 08:49:37 1994"} {
		checkParse(t, s, sample, answer{sample, form, api.OK, 0})
	}
	checkParse(t, "Sunday, 06-Nov-94 08:49:37 GMT", 4102444800, fault(api.ErrWeekday, 0))
	checkParse(t, "Saturday, 06-Nov-94 08:49:37 GMT", 4102444800, answer{3939871777, api.FormLong, api.OK, 0})
	checkParse(t, "Sun, 06 Nov 1994 08:49:37 UTC", 0, fault(api.ErrStamp, 26))
	checkParse(t, "Sun, 6 Nov 1994", 0, fault(api.ErrStamp, 6))
	checkParse(t, "Sun, 31 Nov 1994 08:49:37 GMT", 0, fault(api.ErrDate, 5))
	checkParse(t, "Mon, 06 Nov 1994 08:49:37 GMT", 0, fault(api.ErrWeekday, 0))
	checkParse(t, "Sun, 06 Nov 1994 24:00:00 GMT", 0, fault(api.ErrTime, 17))
	checkParse(t, "", 0, fault(api.ErrStamp, 0))
	checkParse(t, fixSample+" ", 0, fault(api.ErrStamp, 29))
}

func TestParseNow(t *testing.T) {
	for _, now := range []int{api.MinMoment - 1, api.MaxMoment + 1, math.MinInt, math.MaxInt} {
		for _, s := range []string{fixSample, "", "Sunday, 06-Nov-94 08:49:37 GMT", "Sun, 31 Nov 0000 99:99:99 GMT"} {
			checkParse(t, s, now, fault(api.ErrMoment, 0))
		}
	}
	checkParse(t, fixSample, api.MinMoment, answer{sample, api.FormFix, api.OK, 0})
	checkParse(t, fixSample, api.MaxMoment, answer{sample, api.FormFix, api.OK, 0})
}

func TestParseStamp(t *testing.T) {
	for s, at := range map[string]int{
		"S": 0, "Su": 0, "Sun": 3, "sun, 06 Nov 1994 08:49:37 GMT": 0, "SUN, 06 Nov 1994 08:49:37 GMT": 0,
		"Sunday": 3, "Sunda, 06": 3, "Sunday 06-Nov-94": 3, "Xyz, 06": 0, ",": 0, " ": 0,
		"Sun,": 4, "Sun,06": 4, "Sun, ": 5, "Sun, 0": 6, "Sun, 06": 7, "Sun, 06-Nov-1994": 7, "Sun,  6 Nov 1994": 5,
		"Sun, 06 N": 8, "Sun, 06 No": 8, "Sun, 06 Nov": 11, "Sun, 06 nov 1994": 8, "Sun, 06 Nox 1994": 8,
		"Sun, 06 Nov 19": 14, "Sun, 06 Nov 199 08": 15, "Sun, 06 Nov 19940": 16,
		"Sun, 06 Nov 1994 08": 19, "Sun, 06 Nov 1994 8:49:37 GMT": 18, "Sun, 06 Nov 1994 08.49": 19, "Sun, 06 Nov 1994 08:49:3": 24,
		"Sun, 06 Nov 1994 08:49:37": 25, "Sun, 06 Nov 1994 08:49:37 ": 26, "Sun, 06 Nov 1994 08:49:37 G": 27, "Sun, 06 Nov 1994 08:49:37 GM": 28,
		"Sun, 06 Nov 1994 08:49:37 GMt": 28, "Sun, 06 Nov 1994 08:49:37 GMTx": 29, "Sun, 06 Nov 1994 08:49:37 GMT\x00": 29,
		"Sunday,": 7, "Sunday,0": 7, "Sunday, 06-": 11, "Sunday, 06 Nov": 10, "Sunday, 06-Nov-1994 08": 17, "Sunday, 06-Nov-9": 16,
		"Sunday, 06-Nov-94 08:49:37 GMT ": 30, "Wednesday, 06-Nov-94 08:49:37 GMTx": 33, "Wednesday, 06-No": 14,
		"Sun ": 4, "Sun No": 4, "Sun Nov": 7, "Sun Nov ": 8, "Sun Nov  ": 9, "Sun Nov   ": 9, "Sun Nov 6 ": 9, "Sun Nov x6": 8,
		"Sun Nov  6": 10, "Sun Nov  608": 10, "Sun Nov 06 08:49:37 94": 22, "Sun Nov 06 08:49:37 1994 ": 24, "Sun Nov 06 08:49:37 1994GMT": 24,
		"Sun Nov 06 08:49:37 -994": 20, "Sun Nov +6 08": 8, "\xff": 0, "Sun, \xff6": 5,
	} {
		checkParse(t, s, 0, fault(api.ErrStamp, at))
	}
}

func TestParseDate(t *testing.T) {
	for s, at := range map[string]int{
		"Sun, 06 Nov 0000 08:49:37 GMT": 12, "Sun, 99 Nov 0000 99:99:99 GMT": 12,
		"Sun, 00 Nov 1994 08:49:37 GMT": 5, "Sun, 30 Feb 2000 08:49:37 GMT": 5, "Sun, 29 Feb 1900 08:49:37 GMT": 5, "Sun, 99 Nov 1994 99:99:99 GMT": 5,
		"Sun Nov  6 08:49:37 0000": 20, "Sun Nov 31 08:49:37 1994": 8, "Sun Nov  0 08:49:37 1994": 8, "Sun Nov 00 08:49:37 1994": 8, "Sun Nov 31 24:49:37 1994": 8,
		"Sunday, 31-Nov-94 08:49:37 GMT": 8, "Wednesday, 31-Nov-94 24:49:37 GMT": 11, "Sunday, 00-Nov-94 08:49:37 GMT": 8,
	} {
		checkParse(t, s, sample, fault(api.ErrDate, at))
	}
	checkParse(t, "Tue, 29 Feb 2000 00:00:00 GMT", 0, answer{951782400, api.FormFix, api.OK, 0})
	checkParse(t, "Mon, 01 Jan 0001 00:00:00 GMT", 0, answer{api.MinMoment, api.FormFix, api.OK, 0})
	checkParse(t, "Sun Nov 06 08:49:37 1994", 0, answer{sample, api.FormPlain, api.OK, 0})
	checkParse(t, "Fri Dec 31 23:59:59 9999", 0, answer{api.MaxMoment, api.FormPlain, api.OK, 0})
}

func TestParseTime(t *testing.T) {
	for s, at := range map[string]int{
		"Sun, 06 Nov 1994 24:49:37 GMT": 17, "Sun, 06 Nov 1994 08:60:37 GMT": 20, "Sun, 06 Nov 1994 08:49:61 GMT": 23,
		"Mon, 06 Nov 1994 99:99:99 GMT": 17, "Mon, 06 Nov 1994 23:99:99 GMT": 20, "Mon, 06 Nov 1994 23:59:99 GMT": 23,
		"Sunday, 06-Nov-94 24:49:37 GMT": 18, "Sunday, 06-Nov-94 08:60:37 GMT": 21, "Monday, 06-Nov-94 08:49:61 GMT": 24,
		"Sun Nov  6 24:49:37 1994": 11, "Sun Nov 06 08:60:37 1994": 14, "Mon Nov  6 08:49:61 1994": 17,
	} {
		checkParse(t, s, sample, fault(api.ErrTime, at))
	}
}

func TestParseLeapSecond(t *testing.T) {
	checkParse(t, "Sun, 06 Nov 1994 08:49:60 GMT", 0, answer{sample + 23, api.FormFix, api.OK, 0})
	checkParse(t, "Sun, 06 Nov 1994 23:59:60 GMT", 0, answer{784166400, api.FormFix, api.OK, 0})
	checkParse(t, "Mon, 06 Nov 1994 23:59:60 GMT", 0, fault(api.ErrWeekday, 0))
	checkParse(t, "Sunday, 31-Dec-00 23:59:60 GMT", 0, answer{978307200, api.FormLong, api.OK, 0})
	checkParse(t, "Fri, 31 Dec 9999 23:59:60 GMT", 0, fault(api.ErrMoment, 0))
	checkParse(t, "Thu, 31 Dec 9999 23:59:60 GMT", 0, fault(api.ErrWeekday, 0))
	checkParse(t, "Fri, 31 Dec 9999 23:59:61 GMT", 0, fault(api.ErrTime, 23))
	checkParse(t, "Friday, 31-Dec-99 23:59:60 GMT", api.MaxMoment, fault(api.ErrMoment, 0))
	checkParse(t, "Fri Dec 31 23:59:60 9999", 0, fault(api.ErrMoment, 0))
	checkParse(t, "Fri, 31 Dec 9999 23:58:60 GMT", 0, answer{api.MaxMoment - 59, api.FormFix, api.OK, 0})
}

// The year of two digits is one of the hundred from 49 ahead of now's to 50 behind it.
func TestParseLongYear(t *testing.T) {
	for _, this := range []int{1, 2, 48, 49, 50, 51, 52, 99, 100, 101, 150, 1949, 1970, 1994, 1999, 2000, 2026, 2050, 9900, 9948, 9949, 9950, 9951, 9998, 9999} {
		for y := this - 49; y <= this+50; y++ {
			d := time.Date(y, 6, 15, 0, 0, 0, 0, time.UTC)
			two := strconv.Itoa(100 + ((y%100)+100)%100)[1:]
			s := d.Format("Monday, 02-Jan-") + two + " 00:00:00 GMT"
			want := answer{int(d.Unix()), api.FormLong, api.OK, 0}
			if y < 1 || y > 9999 {
				want = fault(api.ErrDate, strings.Index(s, "-Jun-")+5)
			}
			checkParse(t, s, year(this), want)
			checkParse(t, s, year(this+1)-1, want)
		}
	}
	checkParse(t, "Sunday, 99-Nov-00 99:49:37 GMT", year(1), fault(api.ErrDate, 15)) // the year 0: ahead of the day
	checkParse(t, "Sunday, 99-Nov-02 99:49:37 GMT", year(9999), fault(api.ErrDate, 15))
	checkParse(t, "Sunday, 99-Nov-99 99:49:37 GMT", year(9999), fault(api.ErrDate, 8))
}

// Each other weekday's name is a fault.
func TestParseWeekday(t *testing.T) {
	for day := range 7 {
		d := time.Date(2024, 1, 1+day, 1, 2, 3, 0, time.UTC) // the 1st is a Monday
		for form, layout := range layouts {
			s := d.Format(layout)
			for other := range 7 {
				name := time.Weekday((other + 1) % 7).String()
				if form != api.FormLong {
					name = name[:3]
				}
				want := answer{int(d.Unix()), form, api.OK, 0}
				if other != day {
					want = fault(api.ErrWeekday, 0)
				}
				checkParse(t, name+s[strings.IndexAny(s, ", "):], year(2024), want)
			}
		}
	}
}

func TestThereAndBack(t *testing.T) {
	nows := []int{api.MinMoment, year(50), year(1970), sample, year(2027) - 1, year(9950), api.MaxMoment}
	for _, m := range someMoments() {
		y := libraryDate(m).Year
		near := []int{y - 51, y - 50, y - 49, y, y + 48, y + 49, y + 50}
		for _, n := range append(near, 1, 1970, 9999) {
			if n < 1 || n > 9999 {
				continue
			}
			s, _ := stamp.Write(m, api.FormLong)
			want := n-49 <= y && y <= n+50
			if got := parse(s, year(n)); (got == answer{m, api.FormLong, api.OK, 0}) != want {
				t.Fatalf("Parse(%q) at %d: %+v", s, n, got)
			}
		}
		for _, form := range []int{api.FormFix, api.FormPlain} {
			s, _ := stamp.Write(m, form)
			if got := parse(s, nows[(m%7+7)%7]); got != (answer{m, form, api.OK, 0}) {
				t.Fatalf("Parse(%q): %+v; want %d", s, got, m)
			}
		}
	}
}

// eachPiece calls f with texts of each form, of all names and days and of some years and times.
func eachPiece(f func(s string)) {
	for i := range 7 * 12 * 110 {
		weekday, month, number := time.Weekday(i%7).String(), time.Month(i/7%12 + 1).String()[:3], i/84
		day := strconv.Itoa(100 + number)[1:]
		if number >= 100 {
			day = " " + strconv.Itoa(number-100)
		}
		for _, y := range []string{"1951", "1994", "2000", "2044"} {
			for _, clock := range []string{" 00:00:00", " 00:01:00", " 01:00:00", " 23:59:59", " 24:00:00", " 00:60:00"} {
				f(weekday[:3] + ", " + day + " " + month + " " + y + clock + " GMT")
				f(weekday + ", " + day + "-" + month + "-" + y[2:] + clock + " GMT")
				f(weekday[:3] + " " + month + " " + day + clock + " " + y)
			}
		}
	}
}

// Texts of one form and one length that are taken say unlike moments, but for a second of 60 and the two ways of a day below 10.
func TestOneMeaning(t *testing.T) {
	type seen struct{ moment, form, length int }
	texts := map[seen]string{}
	eachPiece(func(s string) {
		got := parse(s, sample)
		if got.err != api.OK {
			return
		}
		if got.form == api.FormPlain && s[8] == ' ' {
			s = s[:8] + "0" + s[9:]
		}
		key := seen{got.moment, got.form, len(s)}
		if other, there := texts[key]; there && other != s {
			t.Errorf("%q and %q say %d", other, s, got.moment)
		}
		texts[key] = s
	})
	if want := (3*365 + 366 + 1) * 4 * 3; len(texts) != want { // 1951, 1994, and the leap years 2000 and 2044
		t.Errorf("%d texts were taken, not %d", len(texts), want)
	}
	checkParse(t, "Sun Nov 06 08:50:00 1994", 0, parse("Sun Nov  6 08:50:00 1994", 0))
	checkParse(t, "Sun Nov  6 08:49:60 1994", 0, parse("Sun Nov  6 08:50:00 1994", 0))
}

// patterns are the forms sign by sign: D is a digit, B a digit or a blank, m a month's name, W and L weekdays' names.
var patterns = []string{"W, DD m DDDD DD:DD:DD GMT", "L, DD-m-DD DD:DD:DD GMT", "W m BD DD:DD:DD DDDD"}

// modelForm tells the form that a text is to be in.
func modelForm(s string) int {
	before, _, comma := strings.Cut(s, ",")
	for d := range 7 {
		name := time.Weekday(d).String()
		if comma && before == name[:3] {
			return api.FormFix
		}
		if comma && before == name {
			return api.FormLong
		}
	}
	return api.FormPlain
}

// modelName finds which of the names a text begins with.
func modelName(s string, kind byte) string {
	for i := range 12 {
		name := time.Month(i + 1).String()[:3]
		if kind != 'm' {
			name = time.Weekday(i % 7).String()
		}
		if kind == 'W' {
			name = name[:3]
		}
		if strings.HasPrefix(s, name) {
			return name
		}
	}
	return ""
}

// modelPlace is where a text leaves its form; -1: it does not.
func modelPlace(s string, form int) int {
	at := 0
	for _, kind := range []byte(patterns[form]) {
		rest := s[at:]
		length := 1
		switch {
		case strings.Contains("WLm", string(kind)):
			length = len(modelName(rest, kind))
		case rest == "":
			length = 0
		case kind == 'D':
			length = strings.Count("0123456789", rest[:1])
		case kind == 'B':
			length = strings.Count(" 0123456789", rest[:1])
		case rest[0] != kind:
			length = 0
		}
		if length == 0 {
			return at
		}
		at += length
	}
	if at < len(s) {
		return at
	}
	return -1
}

// modelParse is Parse with the library's calendar.
func modelParse(s string, now int) answer {
	form := modelForm(s)
	if at := modelPlace(s, form); at >= 0 {
		return fault(api.ErrStamp, at)
	}
	number := func(at, length int) int {
		n, _ := strconv.Atoi(strings.Trim(s[at:at+length], " "))
		return n
	}
	comma := strings.Index(s, ",")
	dayAt, monthAt, yearAt, timeAt, digits := comma+2, comma+5, comma+9, comma+14, 4
	switch form {
	case api.FormLong:
		timeAt, digits = comma+12, 2
	case api.FormPlain:
		monthAt, dayAt, timeAt, yearAt = 4, 8, 11, 20
	}
	y, month := number(yearAt, digits), time.Month(1)
	for month.String()[:3] != s[monthAt:monthAt+3] {
		month++
	}
	if form == api.FormLong {
		for near := libraryDate(now).Year - 49; ; near++ {
			if (near-y)%100 == 0 {
				y = near
				break
			}
		}
	}
	day, hour, minute, second := number(dayAt, 2), number(timeAt, 2), number(timeAt+3, 2), number(timeAt+6, 2)
	date := time.Date(y, month, day, 0, 0, 0, 0, time.UTC)
	switch {
	case y < 1 || y > 9999:
		return fault(api.ErrDate, yearAt)
	case date.Day() != day:
		return fault(api.ErrDate, dayAt)
	case hour > 23:
		return fault(api.ErrTime, timeAt)
	case minute > 59:
		return fault(api.ErrTime, timeAt+3)
	case second > 60:
		return fault(api.ErrTime, timeAt+6)
	case !strings.HasPrefix(s, date.Weekday().String()[:3]):
		return fault(api.ErrWeekday, 0)
	}
	m := int(date.Unix()) + hour*3600 + minute*60 + second
	if m > api.MaxMoment {
		return fault(api.ErrMoment, 0)
	}
	return answer{m, form, api.OK, 0}
}

// Texts that are taken, cut at each place, and with each byte changed to each other one, left out or laid in.
func TestParseAgainstModel(t *testing.T) {
	for _, m := range []int{sample, api.MinMoment, api.MaxMoment, 0, year(2000) + 59*daySeconds, year(1996) + 58*daySeconds + 86399} {
		for form := range 3 {
			s, _ := stamp.Write(m, form)
			for at := range len(s) + 1 {
				checkParse(t, s[:at], m, modelParse(s[:at], m))
				for c := range 256 {
					sign := string([]byte{byte(c)})
					laid := s[:at] + sign + s[at:]
					checkParse(t, laid, m, modelParse(laid, m))
					if at < len(s) {
						changed := s[:at] + sign + s[at+1:]
						checkParse(t, changed, m, modelParse(changed, m))
					}
				}
				if at < len(s) {
					left := s[:at] + s[at+1:]
					checkParse(t, left, m, modelParse(left, m))
				}
			}
		}
	}
}

// Texts with several digits, names and signs changed.
func TestParseMixtures(t *testing.T) {
	r := rand.New(rand.NewSource(44))
	moments := someMoments()
	taken := 0
	for range 200000 {
		m, now := moments[r.Intn(len(moments))], moments[r.Intn(len(moments))]
		s, _ := stamp.Write(m, r.Intn(3))
		b := []byte(s)
		for range r.Intn(4) {
			at := r.Intn(len(b))
			if '0' <= b[at] && b[at] <= '9' {
				b[at] = byte('0' + r.Intn(10))
			} else if r.Intn(8) == 0 {
				b[at] = " ,:-0aMDJ"[r.Intn(9)]
			}
		}
		want := modelParse(string(b), now)
		if want.err == api.OK {
			taken++
		}
		checkParse(t, string(b), now, want)
	}
	if taken < 1000 {
		t.Error("too few texts were taken:", taken)
	}
}
