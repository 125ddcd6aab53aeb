package stamp

import (
	"strings"

	"turnpike/api"
)

// leapSecond is the greatest second that a text may say.
const leapSecond = 60

// piece is what a piece of a text says, and where it begins.
type piece struct{ value, at int }

// pieces are those of a date.
type pieces struct {
	weekday, day, month, year, hour, minute, second piece
}

// taker takes a piece of a text that begins at a place there: the place behind it, or, beside false, the place of the fault.
type taker func(s string, at int) (int, bool)

// Parse is the moment that a text says, and the text's form.
func Parse(s string, now int) (int, int, api.Errno, int) {
	today, err := Split(now)
	if err != api.OK {
		return 0, 0, err, 0
	}
	var p pieces
	form := formOf(s)
	if at, ok := walk(s, form, &p); !ok {
		return 0, 0, api.ErrStamp, at
	}
	if form == long {
		p.year.value = nearYear(p.year.value, today.Year)
	}
	moment, err, at := p.moment()
	if err != api.OK {
		return 0, 0, err, at
	}
	return moment, form, api.OK, 0
}

// formOf is the form in which a text is to be.
func formOf(s string) int {
	for day := range weekLength {
		if strings.HasPrefix(s, shortDays[day]+",") {
			return fix
		}
		if strings.HasPrefix(s, longDays[day]+",") {
			return long
		}
	}
	return plain
}

// walk takes the pieces of a text one behind the other; beside false is the place where it is not in its form any more.
func walk(s string, form int, p *pieces) (int, bool) {
	at, good := 0, true
taking:
	for _, take := range takers(form, p) {
		if at, good = take(s, at); !good {
			break taking
		}
	}
	return at, good && at == len(s)
}

// takers are what takes a form's pieces, in their order.
func takers(form int, p *pieces) []taker {
	shortDay := name(weekLength, func(i int) string { return shortDays[i] }, &p.weekday)
	longDay := name(weekLength, func(i int) string { return longDays[i] }, &p.weekday)
	month := name(monthCount, func(i int) string { return months[i] }, &p.month)
	day, year := digits(2, &p.day), digits(4, &p.year)
	hour, minute, second := digits(2, &p.hour), digits(2, &p.minute), digits(2, &p.second)
	blank, colon := exactly(" "), exactly(":")
	switch form {
	case long:
		return []taker{longDay, exactly(", "), day, exactly("-"), month, exactly("-"), digits(2, &p.year), blank, hour, colon, minute, colon, second, exactly(zone)}
	case plain:
		return []taker{shortDay, blank, month, blank, loose(day, &p.day), blank, hour, colon, minute, colon, second, blank, year}
	}
	return []taker{shortDay, exactly(", "), day, blank, month, blank, year, blank, hour, colon, minute, colon, second, exactly(zone)}
}

// exactly takes just these bytes.
func exactly(want string) taker {
	return func(s string, at int) (int, bool) {
		for i := range len(want) {
			if at == len(s) || s[at] != want[i] {
				return at, false
			}
			at++
		}
		return at, true
	}
}

// digits takes that many digits.
func digits(count int, p *piece) taker {
	return func(s string, at int) (int, bool) {
		*p = piece{at: at}
		for range count {
			if at == len(s) || s[at] < '0' || s[at] > '9' {
				return at, false
			}
			p.value = p.value*10 + int(s[at]-'0')
			at++
		}
		return at, true
	}
}

// loose takes a day of two digits, or of a blank and a digit.
func loose(day taker, p *piece) taker {
	return func(s string, at int) (int, bool) {
		if !strings.HasPrefix(s[at:], " ") {
			return day(s, at)
		}
		next, good := digits(1, p)(s, at+1)
		p.at = at // a day's first byte is the blank
		return next, good
	}
}

// name takes one of so many names, and keeps its number from 0 on.
func name(count int, nameOf func(int) string, p *piece) taker {
	return func(s string, at int) (int, bool) {
		for i := range count {
			if strings.HasPrefix(s[at:], nameOf(i)) {
				*p = piece{i, at}
				return at + len(nameOf(i)), true
			}
		}
		return at, false
	}
}

// nearYear is that year of the hundred around this year which has these two last digits.
func nearYear(digits, this int) int {
	first := this - 49
	return first + modulo(digits-first, 100)
}

// moment is what the pieces say, or an error and its place.
func (p *pieces) moment() (int, api.Errno, int) {
	if p.year.value < firstYear || p.year.value > lastYear {
		return 0, api.ErrDate, p.year.at
	}
	days, err := Days(p.year.value, p.month.value+1, p.day.value)
	switch {
	case err != api.OK:
		return 0, err, p.day.at
	case p.hour.value > 23:
		return 0, api.ErrTime, p.hour.at
	case p.minute.value > 59:
		return 0, api.ErrTime, p.minute.at
	case p.second.value > leapSecond:
		return 0, api.ErrTime, p.second.at
	case p.weekday.value != weekday(days):
		return 0, api.ErrWeekday, 0
	}
	moment := momentOf(days, p.hour.value, p.minute.value, p.second.value)
	if moment > api.MaxMoment {
		return 0, api.ErrMoment, 0
	}
	return moment, api.OK, 0
}
