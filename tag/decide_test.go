package tag_test

import (
	"math"
	"strings"
	"testing"

	"turnpike/api"
	"turnpike/tag"
)

const (
	moment     = 784111777
	dateBefore = "Sun, 06 Nov 1994 08:49:36 GMT"
	dateOf     = "Sun, 06 Nov 1994 08:49:37 GMT"
	dateLong   = "Sunday, 06-Nov-94 08:49:37 GMT"
	datePlain  = "Sun Nov  6 08:49:37 1994"
	dateAfter  = "Sun, 06 Nov 1994 08:49:38 GMT"
	dayBefore  = "Sat, 05 Nov 1994 08:49:37 GMT"
	noDate     = "Mon, 06 Nov 1994 08:49:37 GMT"
)

// fields is a list of fields: names and their values, one behind the other.
func fields(pairs ...string) []api.Field {
	var l []api.Field
	for i := 0; i < len(pairs); i += 2 {
		l = append(l, api.Field{Name: pairs[i], Value: pairs[i+1]})
	}
	return l
}

func there() api.State {
	return api.State{There: true, Tag: strong("a"), Tagged: true, Time: moment, Timed: true}
}

func weakly() api.State {
	s := there()
	s.Tag.Weak = true
	return s
}

func untagged() api.State {
	s := there()
	s.Tagged = false
	return s
}

func untimed() api.State {
	s := there()
	s.Timed = false
	return s
}

// gone is not there, whatever else it says.
func gone() api.State {
	s := there()
	s.There = false
	return s
}

// decision is a request, the state of what it is for, and what is decided.
type decision struct {
	method string
	fields []api.Field
	state  api.State
	want   int
}

func checkDecided(t *testing.T, all []decision) {
	t.Helper()
	for _, c := range all {
		if got := tag.Decide(c.method, c.fields, c.state, moment); got != c.want {
			t.Errorf("Decide(%s, %q, %v): %d; want %d", c.method, c.fields, c.state, got, c.want)
		}
	}
}

// 8.4, the example 4.
func TestDecideExamples(t *testing.T) {
	checkDecided(t, []decision{
		{"GET", fields("If-None-Match", `W/"a"`), there(), api.DecideSame},
		{"PUT", fields("If-None-Match", `W/"a"`), there(), api.DecideFailed},
		{"GET", fields("If-Match", `W/"a"`), there(), api.DecideFailed},
		{"GET", fields("If-Match", `"a"`, "If-None-Match", `"b"`), there(), api.DecideGo},
		{"GET", fields("If-Modified-Since", dateOf), there(), api.DecideSame},
		{"GET", fields("If-Modified-Since", dayBefore), there(), api.DecideGo},
		{"GET", fields("If-None-Match", `"b"`, "If-Modified-Since", dateOf), there(), api.DecideGo},
		{"PUT", fields("If-None-Match", "*"), api.State{}, api.DecideGo},
		{"PUT", fields("If-Match", "*"), api.State{}, api.DecideFailed},
	})
}

// 8.4, 1.
func TestDecideByIfMatch(t *testing.T) {
	checkDecided(t, []decision{
		{"PUT", fields("If-Match", "*"), there(), api.DecideGo},
		{"PUT", fields("If-Match", " * "), untagged(), api.DecideGo},
		{"PUT", fields("If-Match", "*"), gone(), api.DecideFailed},
		{"PUT", fields("If-Match", `"a"`), there(), api.DecideGo},
		{"PUT", fields("If-Match", `"b", "a"`), there(), api.DecideGo},
		{"PUT", fields("If-Match", `"b"`, "if-match", `"a"`), there(), api.DecideGo},
		{"PUT", fields("If-Match", `W/"a", "a"`), there(), api.DecideGo},
		{"PUT", fields("If-Match", `"b"`), there(), api.DecideFailed},
		{"PUT", fields("If-Match", `"a"`), weakly(), api.DecideFailed},
		{"PUT", fields("If-Match", `W/"a"`), weakly(), api.DecideFailed},
		{"PUT", fields("If-Match", `"a"`), untagged(), api.DecideFailed},
		{"PUT", fields("If-Match", `"a"`), gone(), api.DecideFailed},
		{"PUT", fields("If-Match", `"a", `), there(), api.DecideGo},
		{"PUT", fields("If-Match", `"a" "a"`), there(), api.DecideFailed},
		{"PUT", fields("If-Match", `"a", *`), there(), api.DecideFailed},
		{"PUT", fields("If-Match", "*", "If-Match", "*"), there(), api.DecideFailed},
		{"PUT", fields("If-Match", ""), there(), api.DecideFailed},
		{"PUT", fields("If-Match", "a"), there(), api.DecideFailed},
		{"PUT", fields("If-Match", `"a`, "If-Match", `b"`), there(), api.DecideFailed},
		{"GET", fields("If-Match", `"b"`), there(), api.DecideFailed},
		{"GET", fields("If-Match", `""`), api.State{There: true}, api.DecideFailed},
		{"GET", fields("If-Match", `"b"`, "If-None-Match", `"a"`), there(), api.DecideFailed},
		{"GET", fields("If-None-Match", `"a"`, "If-Match", `"a"`), there(), api.DecideSame},
		{"PUT", fields("If-None-Match", `"a"`, "If-Match", `"a"`), there(), api.DecideFailed},
		{"GET", fields("If-Match", `"a"`, "If-Modified-Since", dateOf), there(), api.DecideSame},
	})
}

// 8.4, 2.
func TestDecideByIfUnmodifiedSince(t *testing.T) {
	checkDecided(t, []decision{
		{"PUT", fields("If-Unmodified-Since", dateBefore), there(), api.DecideFailed},
		{"PUT", fields("If-Unmodified-Since", dateOf), there(), api.DecideGo},
		{"PUT", fields("If-Unmodified-Since", dateAfter), there(), api.DecideGo},
		{"PUT", fields("If-Unmodified-Since", dateLong), there(), api.DecideGo},
		{"PUT", fields("If-Unmodified-Since", datePlain), there(), api.DecideGo},
		{"GET", fields("If-Unmodified-Since", dayBefore), there(), api.DecideFailed},
		{"GET", fields("If-Unmodified-Since", dayBefore), untagged(), api.DecideFailed},
		{"PUT", fields("If-Unmodified-Since", dateBefore), untimed(), api.DecideGo},
		{"PUT", fields("If-Unmodified-Since", dateBefore), gone(), api.DecideGo},
		{"PUT", fields("If-Unmodified-Since", noDate), there(), api.DecideGo},
		{"PUT", fields("If-Unmodified-Since", ""), there(), api.DecideGo},
		{"PUT", fields("If-Unmodified-Since", dateBefore+" "), there(), api.DecideGo},
		{"PUT", fields("If-Unmodified-Since", " "+dateBefore), there(), api.DecideGo},
		{"PUT", fields("If-Unmodified-Since", dateBefore, "if-unmodified-since", dateBefore), there(), api.DecideGo},
		{"PUT", fields("If-Unmodified-Since", dateBefore, "If-Match", `"a"`), there(), api.DecideGo},
		{"PUT", fields("If-Unmodified-Since", dateBefore, "If-Match", `"b"`), there(), api.DecideFailed},
		{"PUT", fields("If-Unmodified-Since", dateOf, "If-Match", ""), there(), api.DecideFailed},
		{"GET", fields("If-Unmodified-Since", dateBefore, "If-None-Match", `"a"`), there(), api.DecideFailed},
		{"GET", fields("If-Unmodified-Since", dateOf, "If-None-Match", `"a"`), there(), api.DecideSame},
		{"GET", fields("If-Unmodified-Since", dateBefore, "If-Modified-Since", dateOf), there(), api.DecideFailed},
		{"GET", fields("If-Unmodified-Since", dateOf, "If-Modified-Since", dateOf), there(), api.DecideSame},
	})
}

// 8.4, 3.
func TestDecideByIfNoneMatch(t *testing.T) {
	checkDecided(t, []decision{
		{"GET", fields("If-None-Match", "*"), there(), api.DecideSame},
		{"HEAD", fields("If-None-Match", " *\t"), untagged(), api.DecideSame},
		{"PUT", fields("If-None-Match", "*"), there(), api.DecideFailed},
		{"get", fields("If-None-Match", "*"), there(), api.DecideFailed},
		{"", fields("If-None-Match", "*"), there(), api.DecideFailed},
		{"GETS", fields("If-None-Match", "*"), there(), api.DecideFailed},
		{"GET", fields("If-None-Match", "*"), gone(), api.DecideGo},
		{"GET", fields("If-None-Match", `"a"`), there(), api.DecideSame},
		{"HEAD", fields("If-None-Match", `"b", W/"a"`), there(), api.DecideSame},
		{"HEAD", fields("If-None-Match", `"b"`, "IF-NONE-MATCH", `"a"`), weakly(), api.DecideSame},
		{"POST", fields("If-None-Match", `"a"`), weakly(), api.DecideFailed},
		{"GET", fields("If-None-Match", `"b"`), there(), api.DecideGo},
		{"PUT", fields("If-None-Match", `"b"`), there(), api.DecideGo},
		{"GET", fields("If-None-Match", `"a"`), untagged(), api.DecideGo},
		{"GET", fields("If-None-Match", `"a"`), gone(), api.DecideGo},
		{"GET", fields("If-None-Match", `"a" "a"`), there(), api.DecideGo},
		{"GET", fields("If-None-Match", `*, "a"`), there(), api.DecideGo},
		{"GET", fields("If-None-Match", "*", "If-None-Match", "*"), there(), api.DecideGo},
		{"GET", fields("If-None-Match", ""), there(), api.DecideGo},
		{"GET", fields("If-None-Match", `""`), api.State{There: true}, api.DecideGo},
		{"GET", fields("If-None-Match", `""`), api.State{There: true, Tagged: true}, api.DecideSame},
		{"PUT", fields("If-None-Match", `"A"`), there(), api.DecideGo},
	})
}

// 8.4, 4.
func TestDecideByIfModifiedSince(t *testing.T) {
	checkDecided(t, []decision{
		{"GET", fields("If-Modified-Since", dateBefore), there(), api.DecideGo},
		{"GET", fields("If-Modified-Since", dateAfter), there(), api.DecideSame},
		{"GET", fields("If-Modified-Since", dateLong), there(), api.DecideSame},
		{"HEAD", fields("if-modified-since", datePlain), untagged(), api.DecideSame},
		{"PUT", fields("If-Modified-Since", dateOf), there(), api.DecideGo},
		{"head", fields("If-Modified-Since", dateOf), there(), api.DecideGo},
		{"GET", fields("If-Modified-Since", dateOf), untimed(), api.DecideGo},
		{"GET", fields("If-Modified-Since", dateOf), gone(), api.DecideGo},
		{"GET", fields("If-Modified-Since", noDate), there(), api.DecideGo},
		{"GET", fields("If-Modified-Since", ""), there(), api.DecideGo},
		{"GET", fields("If-Modified-Since", dateOf+"\t"), there(), api.DecideGo},
		{"GET", fields("If-Modified-Since", dateOf, "If-Modified-Since", dateOf), there(), api.DecideGo},
		{"GET", fields("If-Modified-Since", dateOf, "If-None-Match", ""), there(), api.DecideGo},
		{"GET", fields("If-Modified-Since", dateBefore, "If-None-Match", `"a"`), there(), api.DecideSame},
		{"GET", fields("If-Modified-Since", dateOf, "If-Unmodified-Since", noDate), there(), api.DecideSame},
		{"GET", nil, there(), api.DecideGo},
		{"PUT", nil, api.State{}, api.DecideGo},
	})
}

// 8.4: a date is read with now: without a moment there is none, and the years of the long form lie around it.
func TestDecideByNow(t *testing.T) {
	l := fields("If-Modified-Since", dateOf)
	for _, now := range []int{math.MinInt, api.MinMoment - 1, api.MaxMoment + 1, math.MaxInt} {
		if got := tag.Decide("GET", l, there(), now); got != api.DecideGo {
			t.Errorf("now %d: %d", now, got)
		}
		if tag.Ranged(fields("If-Range", dateOf), there(), now) {
			t.Errorf("Ranged at %d", now)
		}
		if !tag.Ranged(fields("If-Range", `"a"`), there(), now) || tag.Decide("GET", fields("If-None-Match", `"a"`), there(), now) != api.DecideSame {
			t.Errorf("tags at %d", now)
		}
	}
	for _, now := range []int{api.MinMoment, 0, moment, api.MaxMoment} {
		if got := tag.Decide("GET", l, there(), now); got != api.DecideSame {
			t.Errorf("now %d: %d", now, got)
		}
		if !tag.Ranged(fields("If-Range", dateOf), there(), now) {
			t.Errorf("not Ranged at %d", now)
		}
	}
	// In the year 2100 the year 94 is 2094, in which the day is a Saturday.
	for text, want := range map[string]int{dateLong: api.DecideGo, "Saturday, 06-Nov-94 08:49:37 GMT": api.DecideSame} {
		if got := tag.Decide("GET", fields("If-Modified-Since", text), there(), 4102444800); got != want {
			t.Errorf("%s: %d", text, got)
		}
	}
}

// 8.4: times at the ends.
func TestDecideByFarTimes(t *testing.T) {
	for time, later := range map[int]bool{math.MinInt: false, -1: false, 0: false, math.MaxInt: true, api.MaxMoment: true, api.MinMoment: false} {
		s := there()
		s.Time = time
		un, mod := tag.Decide("GET", fields("If-Unmodified-Since", dateOf), s, moment), tag.Decide("GET", fields("If-Modified-Since", dateOf), s, moment)
		if (un == api.DecideFailed) != later || (mod == api.DecideSame) == later || un == api.DecideSame || mod == api.DecideFailed {
			t.Errorf("time %d: %d, %d", time, un, mod)
		}
	}
}

// states is all of them that are told apart.
func states() []api.State {
	var all []api.State
	for i := range 16 {
		all = append(all, api.State{There: i&1 > 0, Tag: api.Tag{Weak: i&2 > 0, Text: "a"}, Tagged: i&4 > 0, Time: moment, Timed: i&8 > 0})
	}
	return all
}

// requests is all that have each of the four fields in one of these ways, or not at all.
func requests() [][]api.Field {
	conditions := []string{"", "*", `"a"`, `W/"a"`, `"b"`, `"b", W/"a"`, `"a" "b"`}
	dates := []string{dateBefore, dateOf, dateAfter, noDate}
	all := [][]api.Field{nil}
	for _, part := range []struct {
		name   string
		values []string
	}{{"If-Modified-Since", dates}, {"If-None-Match", conditions}, {"If-Unmodified-Since", dates}, {"If-Match", conditions}} {
		for _, l := range all[:len(all):len(all)] {
			for _, value := range part.values {
				all = append(all, append(l[:len(l):len(l)], api.Field{Name: part.name, Value: value}))
			}
		}
	}
	return all
}

// 8.4, 8.6: all ways together, held against the sentences; a thing that is not there goes on without If-Match; 304 only by its two fields; other fields and cases do not matter.
func TestDecideAgainstModel(t *testing.T) {
	others := fields("Range", "bytes=0-1", "If-Range", `"b"`, "If", "*", "If-Match-", "*", "Date", dateBefore, "", "")
	for _, l := range requests() {
		cased := append(append(others[:3:3], changeCase(l)...), others[3:]...)
		for _, s := range states() {
			for _, method := range []string{"GET", "HEAD", "PUT", "get"} {
				want := modelDecide(method, l, s)
				got := tag.Decide(method, l, s, moment)
				if got != want {
					t.Fatalf("Decide(%s, %q, %v): %d; want %d", method, l, s, got, want)
				}
				if got := tag.Decide(method, cased, s, moment); got != want {
					t.Fatalf("Decide(%s, %q, %v): %d; want %d", method, cased, s, got, want)
				}
				if !s.There && len(values(l, "If-Match")) == 0 && got != api.DecideGo {
					t.Fatalf("Decide(%s, %q, %v): %d", method, l, s, got)
				}
				if got == api.DecideSame && len(values(l, "If-None-Match"))+len(values(l, "If-Modified-Since")) == 0 {
					t.Fatalf("Decide(%s, %q, %v): %d", method, l, s, got)
				}
			}
		}
	}
}

// changeCase is the fields the other way round, with small letters in one name and capital ones in the next.
func changeCase(l []api.Field) []api.Field {
	var out []api.Field
	for i, f := range l {
		f.Name = strings.ToLower(f.Name)
		if i%2 > 0 {
			f.Name = strings.ToUpper(f.Name)
		}
		out = append([]api.Field{f}, out...)
	}
	return out
}

// 8.5.
func TestRanged(t *testing.T) {
	for _, c := range []struct {
		fields []api.Field
		state  api.State
		want   bool
	}{
		{nil, there(), true},
		{nil, api.State{}, true},
		{fields("Range", "bytes=0-1", "If-Match", `"b"`, "If-Unmodified-Since", dateBefore, "If-None-Match", "*"), there(), true},
		{fields("If-Range", `"a"`), there(), true},
		{fields("if-RANGE", ` "a"	`), there(), true},
		{fields("If-Range", `"a"`), untimed(), true},
		{fields("If-Range", `"b"`), there(), false},
		{fields("If-Range", `W/"a"`), there(), false},
		{fields("If-Range", `"a"`), weakly(), false},
		{fields("If-Range", `W/"a"`), weakly(), false},
		{fields("If-Range", `"a"`), untagged(), false},
		{fields("If-Range", `"a"`), gone(), false},
		{fields("If-Range", `""`), api.State{There: true}, false},
		{fields("If-Range", `"a", "a"`), there(), false},
		{fields("If-Range", `"a",`), there(), false},
		{fields("If-Range", "*"), there(), false},
		{fields("If-Range", ""), there(), false},
		{fields("If-Range", "a"), there(), false},
		{fields("If-Range", `"a"`, "If-Range", `"a"`), there(), false},
		{fields("If-Range", dateOf), there(), true},
		{fields("If-Range", dateLong), there(), true},
		{fields("If-Range", datePlain), untagged(), true},
		{fields("If-Range", dateBefore), there(), false},
		{fields("If-Range", dateAfter), there(), false},
		{fields("If-Range", noDate), there(), false},
		{fields("If-Range", dateOf), untimed(), false},
		{fields("If-Range", dateOf), gone(), false},
		{fields("If-Range", " "+dateOf), there(), false},
		{fields("If-Range", dateOf+" "), there(), false},
		{fields("If-Range", dateOf, "if-range", dateOf), there(), false},
		{fields("If-Range", dateOf, "if-range", ""), there(), false},
	} {
		if got := tag.Ranged(c.fields, c.state, moment); got != c.want {
			t.Errorf("Ranged(%q, %v): %t", c.fields, c.state, got)
		}
	}
	s := there()
	s.Time = 0
	if tag.Ranged(fields("If-Range", noDate), s, moment) {
		t.Error("a date that is none counts as the moment 0")
	}
}

// 8.5: all values and states, one or two fields, held against the sentences.
func TestRangedAgainstModel(t *testing.T) {
	some := []string{"", "*", `"a"`, `W/"a"`, ` "a" `, `"b"`, dateBefore, dateOf, dateLong, datePlain, dateAfter, noDate, " " + dateOf}
	for l := range lists(some, 2) {
		var given []api.Field
		for _, value := range l {
			given = append(given, api.Field{Name: "IF-Range", Value: value}, api.Field{Name: "If-Match", Value: "no"})
		}
		for _, s := range states() {
			if got, want := tag.Ranged(given, s, moment), modelRanged(given, s); got != want {
				t.Fatalf("Ranged(%q, %v): %t", given, s, got)
			}
		}
	}
}
