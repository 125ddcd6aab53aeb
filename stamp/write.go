package stamp

import (
	"strings"

	"turnpike/api"
	"turnpike/octet"
)

// The forms, numbered as those of api.
const (
	fix = iota
	long
	plain
	formCount
)

const zone = " GMT"

var (
	shortDays = [weekLength]string{"Mon", "Tue", "Wed", "Thu", "Fri", "Sat", "Sun"}
	longDays  = [weekLength]string{"Monday", "Tuesday", "Wednesday", "Thursday", "Friday", "Saturday", "Sunday"}
	months    = [monthCount]string{"Jan", "Feb", "Mar", "Apr", "May", "Jun", "Jul", "Aug", "Sep", "Oct", "Nov", "Dec"}
)

// Print is a moment in the form that a server writes.
func Print(moment int) (string, api.Errno) { return Write(moment, fix) }

// Write is a moment in a form.
func Write(moment, form int) (string, api.Errno) {
	d, err := Split(moment)
	if err != api.OK {
		return "", err
	}
	if !below(form, formCount) {
		return "", api.ErrStamp
	}
	month := months[d.Month-1]
	clock := " " + padded(d.Hour, 2, "0") + ":" + padded(d.Minute, 2, "0") + ":" + padded(d.Second, 2, "0")
	switch form {
	case long:
		return longDays[d.Weekday] + ", " + padded(d.Day, 2, "0") + "-" + month + "-" + padded(d.Year%100, 2, "0") + clock + zone, api.OK
	case plain:
		return shortDays[d.Weekday] + " " + month + " " + padded(d.Day, 2, " ") + clock + " " + padded(d.Year, 4, "0"), api.OK
	}
	return shortDays[d.Weekday] + ", " + padded(d.Day, 2, "0") + " " + month + " " + padded(d.Year, 4, "0") + clock + zone, api.OK
}

// padded is a number in digits, with a sign laid ahead of it till it has that width.
func padded(n, width int, sign string) string {
	s := octet.Digits(n)
	return strings.Repeat(sign, max(width-len(s), 0)) + s
}
