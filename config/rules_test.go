package config_test

import (
	"math"
	"math/rand/v2"
	"slices"
	"strings"
	"sync"
	"testing"

	"turnpike/api"
	"turnpike/config"
)

// soil writes over all of a list, its spare room too.
func soil[T any](l []T, with T) {
	l = l[:cap(l)]
	for i := range l {
		l[i] = with
	}
}

// spare is a list with room behind its end, in which something lies.
func spare[T any](l []T, with T) []T {
	return append(slices.Clone(l), with, with, with)[:len(l)]
}

// roomy is a configuration whose lists all have room behind their ends.
func roomy(c api.Config) api.Config {
	c = bare(c)
	c.Middles = roomyMiddles(c.Middles)
	for i := range c.Routes {
		x := &c.Routes[i]
		x.Methods, x.Middles = spare(x.Methods, "behind"), roomyMiddles(x.Middles)
	}
	c.Routes = spare(c.Routes, echo("/behind"))
	c.Files = spare(c.Files, file("/behind"))
	return c
}

func roomyMiddles(l []api.Middle) []api.Middle {
	for i := range l {
		l[i].List = spare(l[i].List, "behind")
	}
	return spare(l, api.Middle{Kind: 1, Name: "behind"})
}

// whole is a configuration with what lies behind its lists' ends.
func whole(c api.Config) api.Config {
	c.Middles, c.Routes, c.Files = wholeMiddles(c.Middles), c.Routes[:cap(c.Routes)], c.Files[:cap(c.Files)]
	c.Routes = slices.Clone(c.Routes)
	for i := range c.Routes {
		x := &c.Routes[i]
		x.Methods, x.Middles = slices.Clone(x.Methods[:cap(x.Methods)]), wholeMiddles(x.Middles)
	}
	c.Files = slices.Clone(c.Files)
	return c
}

func wholeMiddles(l []api.Middle) []api.Middle {
	l = slices.Clone(l[:cap(l)])
	for i := range l {
		l[i].List = slices.Clone(l[i].List[:cap(l[i].List)])
	}
	return l
}

// R4: what is handed in is left as it is, what lies behind a list's end too, and that has no part in what is answered.
func TestArgumentsStay(t *testing.T) {
	r := rand.New(rand.NewPCG(20, 4))
	for i := range 1000 {
		plain := someConfig(r)
		if i%3 == 0 {
			plain.Middles = append(plain.Middles, wrong)
		}
		c := roomy(plain)
		before := whole(c)
		spot, err := config.Check(c)
		s, refused := config.Print(c)
		if !same(whole(c), before) {
			t.Fatalf("%s was changed", show(c))
		}
		if x, e := config.Check(plain); x != spot || e != err {
			t.Fatalf("Check(%s): %v, %d; with room behind its lists %v, %d", show(plain), x, e, spot, err)
		}
		if x, e := config.Print(plain); x != s || e != refused {
			t.Fatalf("Print(%s): %q, %d; with room behind its lists %q, %d", show(plain), x, e, s, refused)
		}
	}
}

// memory is a list of an answer, with its spare room: how it is written over, and what lies in it but for lists.
type memory struct {
	soil func()
	show func() string
}

func memoryOf[T any](l []T, with T, bare func(x *T)) memory {
	return memory{func() { soil(l, with) }, func() string {
		all := slices.Clone(l[:cap(l)])
		for i := range all {
			bare(&all[i])
		}
		return show(all)
	}}
}

// lists is all lists of a configuration.
func lists(c api.Config) []memory {
	l := elements(c.Middles)
	for _, x := range c.Routes {
		l = append(l, memoryOf(x.Methods, "soiled", func(*string) {}))
		l = append(l, elements(x.Middles)...)
	}
	l = append(l, memoryOf(c.Routes, api.Route{Pattern: "soiled"}, func(x *api.Route) { x.Methods, x.Middles = nil, nil }))
	return append(l, memoryOf(c.Files, api.File{Path: "soiled"}, func(*api.File) {}))
}

func elements(middles []api.Middle) []memory {
	l := []memory{memoryOf(middles, api.Middle{Name: "soiled"}, func(m *api.Middle) { m.List = nil })}
	for _, m := range middles {
		l = append(l, memoryOf(m.List, "soiled", func(*string) {}))
	}
	return l
}

func shown(l []memory) []string {
	var all []string
	for _, m := range l {
		all = append(all, m.show())
	}
	return all
}

// R4: what is handed out is new memory, and no two lists of it share any.
func TestAnswersAreNew(t *testing.T) {
	r := rand.New(rand.NewPCG(20, 8))
	for range 200 {
		s, err := config.Print(someConfig(r))
		if err != api.OK {
			continue
		}
		other, _, _ := config.Parse(s)
		for i := range lists(other) {
			c, _, _ := config.Parse(s)
			all := lists(c)
			before := shown(all)
			all[i].soil()
			behind := shown(all)
			behind[i] = before[i]
			if !slices.Equal(before, behind) {
				t.Fatalf("Parse(%q): two lists share memory", s)
			}
		}
		if !same(other, modelParse(s).config) {
			t.Fatalf("Parse(%q) shares memory with another answer: %s", s, show(other))
		}
	}
}

// R5: what is answered does not hang on what was asked ahead, nor on what is asked at the same time.
func TestAtOneTime(t *testing.T) {
	var all sync.WaitGroup
	for i := range 8 {
		all.Go(func() {
			r := rand.New(rand.NewPCG(20, uint64(i)))
			for range 100 {
				c := someConfig(r)
				want, refused := modelPrint(c)
				if s, err := config.Print(c); s != want || err != refused {
					t.Errorf("Print(%s): %q, %d", show(c), s, err)
				}
				if x, at, err := config.Parse(want); refused == api.OK && (!same(x, c) || at != 0 || err != api.OK) {
					t.Errorf("Parse(%q): %s, %d, %d", want, show(x), at, err)
				}
				if _, at, err := config.Parse("in 1; in"); at != 6 || err != api.ErrRepeat {
					t.Error(at, err)
				}
			}
		})
	}
	all.Wait()
}

// R1: whatever is handed in, no call panics, and an error comes with nothing.
func TestNoPanic(t *testing.T) {
	numbers := []int{math.MinInt, -1, 0, 1, 2, 9, 10, 11, 200, math.MaxInt}
	words := list("", "/a", "a", " ", "\xff", "\x00", "GET", "*", "{", "u:p", "text/plain", "/:a", "/*a/b", strings.Repeat("a", 9000))
	r := rand.New(rand.NewPCG(20, 1))
	n := func() int { return numbers[r.IntN(len(numbers))] }
	w := func() string { return words[r.IntN(len(words))] }
	middles := func() []api.Middle {
		var l []api.Middle
		for range r.IntN(3) {
			l = append(l, api.Middle{Kind: n(), Name: w(), Value: w(), List: someOf(r, words, 2), N: n()})
		}
		return l
	}
	for range 30000 {
		c := someConfig(r)
		if r.IntN(4) == 0 {
			*settingIn(&c, 2+r.IntN(13)) = n()
		}
		c.Middles = append(c.Middles, middles()...)
		if r.IntN(2) == 0 {
			c.Routes = append(c.Routes, api.Route{Methods: someOf(r, words, 2), Pattern: w(), Middles: middles(), Handler: api.Handler{Kind: n(), Name: w(), Text: w(), Media: w(), Status: n(), N: n()}})
			c.Files = append(c.Files, api.File{Path: w(), Media: w(), Coding: w(), Language: w(), Body: w(), Time: n()})
		}
		want, wrong := modelCheck(c)
		if spot, err := config.Check(c); spot != want || err != wrong {
			t.Fatalf("Check(%s): %v, %d; wanted %v, %d", show(c), spot, err, want, wrong)
		}
		if s, err := config.Print(c); err != wrong || (s == "") != (err != api.OK) {
			t.Fatalf("Print(%s): %q, %d", show(c), s, err)
		}
	}
	for range 30000 {
		s := someBytes(r) + someBytes(r)
		if c, at, err := config.Parse(s); err != api.OK && !same(c, api.Config{}) || at < 0 || at > len(s) {
			t.Fatalf("Parse(%q): %s, %d, %d", s, show(c), at, err)
		}
	}
}

// R6: texts that are all of one kind are gone through in good time.
func TestLongTexts(t *testing.T) {
	for _, piece := range list("slash", "\"", "\"\"", "\\", "#\n", "#", "name", "{", "middle methods a ", "route a ", "file a{}", "file/a", "\"\\x00\"", "1", "-", "0", ";") {
		for _, front := range list("", "name ", "middle methods ", "route ", "file a { body ", "in ", "name \"") {
			s := front + strings.Repeat(piece, (1048576-len(front))/len(piece))
			if c, at, err := config.Parse(s); err != api.OK && !same(c, api.Config{}) || at < 0 || at > len(s) {
				t.Errorf("Parse(%.30q..): %s, %d, %d", s, show(c), at, err)
			}
		}
	}
}
