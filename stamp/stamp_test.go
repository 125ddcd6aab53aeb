package stamp_test

import (
	"math"
	"math/rand"
	"testing"
	"time"

	"turnpike/api"
	"turnpike/stamp"
)

const (
	daySeconds = 86400
	sample     = 784111777 // Sunday, the 6th of November 1994, 08:49:37
)

// odd are numbers around the edges that sums could pass.
var odd = []int{math.MinInt, math.MinInt + 1, math.MinInt32, -146097, -400, -1, 0, math.MaxInt32, math.MaxInt - 1, math.MaxInt}

func checkDays(t *testing.T, year, month, day, want int) {
	t.Helper()
	if n, err := stamp.Days(year, month, day); n != want || err != api.OK {
		t.Errorf("Days(%d, %d, %d): %d, %d; want %d, OK", year, month, day, n, err, want)
	}
}

func checkNoDay(t *testing.T, year, month, day int) {
	t.Helper()
	if n, err := stamp.Days(year, month, day); n != 0 || err != api.ErrDate {
		t.Errorf("Days(%d, %d, %d): %d, %d; want ErrDate", year, month, day, n, err)
	}
}

func checkNoJoin(t *testing.T, d api.Date, want api.Errno) {
	t.Helper()
	if n, err := stamp.Join(d); n != 0 || err != want {
		t.Errorf("Join(%+v): %d, %d; want 0, %d", d, n, err, want)
	}
}

// libraryDate is the date of a moment as the library tells it.
func libraryDate(moment int) api.Date {
	d := time.Unix(int64(moment), 0).UTC()
	return api.Date{
		Year: d.Year(), Month: int(d.Month()), Day: d.Day(),
		Hour: d.Hour(), Minute: d.Minute(), Second: d.Second(),
		Weekday: (int(d.Weekday()) + 6) % 7,
	}
}

// someMoments are the edges, the seconds around many days' and years' beginnings, and moments anywhere.
func someMoments() []int {
	out := []int{api.MinMoment, api.MinMoment + 1, api.MaxMoment - 1, api.MaxMoment, -1, 0, 1, sample}
	for year := 2; year <= 9999; year++ {
		begin := int(time.Date(year, 1, 1, 0, 0, 0, 0, time.UTC).Unix())
		out = append(out, begin-1, begin, begin+1, begin+59*daySeconds-1, begin+59*daySeconds, begin+60*daySeconds)
	}
	r := rand.New(rand.NewSource(4))
	for range 20000 {
		out = append(out, api.MinMoment+r.Intn(api.MaxMoment-api.MinMoment+1))
	}
	return out
}

func TestLeap(t *testing.T) {
	for year, want := range map[int]bool{1900: false, 2000: true, 1: false, 4: true, 100: false, 400: true, 1996: true, 1994: false, 9999: false, 0: true, -1: false, -4: true, -100: false, -400: true, 10000: true} {
		if stamp.Leap(year) != want {
			t.Errorf("Leap(%d) is not %v", year, want)
		}
	}
	for year := -2000; year < 12000; year++ {
		if want := time.Date(year, 2, 29, 0, 0, 0, 0, time.UTC).Month() == 2; stamp.Leap(year) != want {
			t.Errorf("Leap(%d) is not %v", year, want)
		}
	}
	if stamp.Leap(math.MaxInt) || !stamp.Leap(math.MinInt) { // 2^63 is divided by 4, not by 100
		t.Error("Leap of the greatest numbers")
	}
}

func TestMonthDays(t *testing.T) {
	lengths := []int{31, 28, 31, 30, 31, 30, 31, 31, 30, 31, 30, 31}
	for _, year := range append([]int{1, 4, 100, 400, 1900, 1994, 2000, 2024, 9999, 10000}, odd...) {
		for month, want := range lengths {
			if month == 1 && stamp.Leap(year) {
				want = 29
			}
			if n := stamp.MonthDays(year, month+1); n != want {
				t.Errorf("MonthDays(%d, %d): %d; want %d", year, month+1, n, want)
			}
		}
		for _, month := range append([]int{13, 14}, odd...) {
			if n := stamp.MonthDays(year, month); n != 0 {
				t.Errorf("MonthDays(%d, %d): %d; want 0", year, month, n)
			}
		}
	}
}

func TestDays(t *testing.T) {
	checkDays(t, 1970, 1, 1, 0)
	checkDays(t, 2000, 3, 1, 11017)
	checkDays(t, 1969, 12, 31, -1)
	checkDays(t, 1, 1, 1, -719162)
	checkDays(t, 9999, 12, 31, 2932896)
	checkDays(t, 2000, 2, 29, 11016)
	checkNoDay(t, 1900, 2, 29)
	checkNoDay(t, 1994, 11, 31)
	checkNoDay(t, 0, 1, 1)
	checkNoDay(t, 10000, 1, 1)
	checkNoDay(t, 1994, 0, 1)
	checkNoDay(t, 1994, 13, 1)
	checkNoDay(t, 1994, 1, 0)
	checkNoDay(t, 1994, 1, 32)
	for _, n := range odd {
		checkNoDay(t, n, 1, 1)
		checkNoDay(t, 1994, n, 1)
		checkNoDay(t, 1994, 1, n)
		checkNoDay(t, n, n, n)
	}
}

// Each day behind a day has the next number and the next weekday, through all years.
func TestDaysFollow(t *testing.T) {
	number, weekday := -719162, 0
	for year := 1; year <= 9999; year++ {
		for month := 1; month <= 12; month++ {
			length := stamp.MonthDays(year, month)
			for day := 1; day <= length; day++ {
				n, err := stamp.Days(year, month, day)
				if n != number || err != api.OK {
					t.Fatalf("Days(%d, %d, %d): %d, %d; want %d", year, month, day, n, err, number)
				}
				want := api.Date{Year: year, Month: month, Day: day, Weekday: weekday}
				if d, err := stamp.Split(n * daySeconds); d != want || err != api.OK {
					t.Fatalf("Split: %+v, %d; want %+v", d, err, want)
				}
				number++
				weekday = (weekday + 1) % 7
			}
			checkNoDay(t, year, month, length+1)
		}
	}
}

func TestFourHundredYears(t *testing.T) {
	for year := 1; year+400 <= 9999; year += 7 {
		a, _ := stamp.Days(year, 1, 1)
		b, _ := stamp.Days(year+400, 1, 1)
		if b-a != 146097 {
			t.Errorf("from %d on 400 years have %d days", year, b-a)
		}
		d, _ := stamp.Split(a * daySeconds)
		e, _ := stamp.Split(b * daySeconds)
		if d.Weekday != e.Weekday {
			t.Errorf("%d and %d begin with unlike weekdays", year, year+400)
		}
	}
}

func TestSplit(t *testing.T) {
	want := api.Date{Year: 1994, Month: 11, Day: 6, Hour: 8, Minute: 49, Second: 37, Weekday: 6}
	if d, err := stamp.Split(sample); d != want || err != api.OK {
		t.Errorf("Split: %+v, %d", d, err)
	}
	if d, _ := stamp.Split(0); d != (api.Date{Year: 1970, Month: 1, Day: 1, Weekday: 3}) {
		t.Errorf("Split(0): %+v", d)
	}
	for _, m := range someMoments() {
		if d, err := stamp.Split(m); d != libraryDate(m) || err != api.OK {
			t.Fatalf("Split(%d): %+v, %d; want %+v", m, d, err, libraryDate(m))
		}
	}
	for _, m := range []int{api.MinMoment - 1, api.MaxMoment + 1, math.MinInt, math.MaxInt} {
		if d, err := stamp.Split(m); d != (api.Date{}) || err != api.ErrMoment {
			t.Errorf("Split(%d): %+v, %d; want ErrMoment", m, d, err)
		}
	}
}

func TestJoin(t *testing.T) {
	for _, m := range someMoments() {
		d := libraryDate(m)
		if n, err := stamp.Join(d); n != m || err != api.OK {
			t.Fatalf("Join(%+v): %d, %d; want %d", d, n, err, m)
		}
		if again, err := stamp.Split(m); again != d || err != api.OK {
			t.Fatalf("Split(Join(%+v)): %+v", d, again)
		}
	}
}

func TestJoinFaults(t *testing.T) {
	good := libraryDate(sample)
	change := func(f func(*api.Date)) api.Date {
		d := good
		f(&d)
		return d
	}
	for _, n := range append([]int{10000, 100000}, odd...) {
		checkNoJoin(t, change(func(d *api.Date) { d.Year = n }), api.ErrDate)
		checkNoJoin(t, change(func(d *api.Date) { d.Month = n }), api.ErrDate)
		checkNoJoin(t, change(func(d *api.Date) { d.Day = n }), api.ErrDate)
		if n != 0 {
			checkNoJoin(t, change(func(d *api.Date) { d.Hour = n }), api.ErrTime)
			checkNoJoin(t, change(func(d *api.Date) { d.Minute = n }), api.ErrTime)
			checkNoJoin(t, change(func(d *api.Date) { d.Second = n }), api.ErrTime)
		}
		checkNoJoin(t, change(func(d *api.Date) { d.Weekday = n }), api.ErrWeekday)
	}
	checkNoJoin(t, change(func(d *api.Date) { d.Day = 31 }), api.ErrDate)
	checkNoJoin(t, change(func(d *api.Date) { d.Hour = 24 }), api.ErrTime)
	checkNoJoin(t, change(func(d *api.Date) { d.Minute = 60 }), api.ErrTime)
	checkNoJoin(t, change(func(d *api.Date) { d.Second = 60 }), api.ErrTime)
	for w := -1; w <= 13; w++ {
		if w != good.Weekday {
			checkNoJoin(t, change(func(d *api.Date) { d.Weekday = w }), api.ErrWeekday)
		}
	}
	checkNoJoin(t, change(func(d *api.Date) { d.Day, d.Hour, d.Weekday = 31, 24, 9 }), api.ErrDate)
	checkNoJoin(t, change(func(d *api.Date) { d.Second, d.Weekday = 60, 9 }), api.ErrTime)
	checkNoJoin(t, api.Date{}, api.ErrDate)
}
