package config_test

import (
	"encoding/hex"
	"fmt"
	"math"
	"math/big"
	"reflect"
	"regexp"
	"slices"
	"sort"
	"strings"
	"testing"

	"turnpike/api"
	"turnpike/chain"
	"turnpike/config"
	"turnpike/handle"
	"turnpike/route"
	"turnpike/shelf"
)

// show is what is told of something that is not as it must be; not all, if it is long.
func show(x any) string { return fmt.Sprintf("%.600q", fmt.Sprintf("%+v", x)) }

// texts goes over all texts of at most so many pieces, each of them out of the list.
func texts(pieces []string, most int) func(yield func(string) bool) {
	return func(yield func(string) bool) {
		level := []string{""}
		for n := 0; ; n++ {
			for _, s := range level {
				if !yield(s) {
					return
				}
			}
			if n == most {
				return
			}
			var next []string
			for _, s := range level {
				for _, p := range pieces {
					next = append(next, s+p)
				}
			}
			level = next
		}
	}
}

func list(l ...string) []string { return l }

// same is whether two configurations are one, where an empty list is none.
func same(a, b api.Config) bool { return reflect.DeepEqual(bare(a), bare(b)) }

// bare is a configuration in lists of its own that has no empty lists.
func bare(c api.Config) api.Config {
	c.Middles = bareMiddles(c.Middles)
	c.Routes = append([]api.Route(nil), c.Routes...)
	for i := range c.Routes {
		c.Routes[i].Methods = append([]string(nil), c.Routes[i].Methods...)
		c.Routes[i].Middles = bareMiddles(c.Routes[i].Middles)
	}
	c.Files = append([]api.File(nil), c.Files...)
	return c
}

func bareMiddles(l []api.Middle) []api.Middle {
	l = append([]api.Middle(nil), l...)
	for i := range l {
		l[i].List = append([]string(nil), l[i].List...)
	}
	return l
}

// The tokens of the chapter as patterns, apart from the program's own.
var (
	gap       = regexp.MustCompile(`\A(?:[ \t\r\n]|#[^\n]*)*`)
	sign      = regexp.MustCompile(`\A[{};]`)
	word      = regexp.MustCompile(`\A[!$-:<-z|~]+`)
	quoted    = regexp.MustCompile(`\A` + parts + `"`)
	unended   = regexp.MustCompile(`\A` + parts + `(?:\\(?:x[0-9A-Fa-f]?)?)?`)
	escaped   = regexp.MustCompile(`\\(?:x..|[^x])`)
	numberAll = regexp.MustCompile(`\A-?[0-9]+\z`)
)

const parts = `"(?:[^"\\]|\\["\\nrt]|\\x[0-9A-Fa-f]{2})*`

// token is a token: its kind is w (a word), n (a word that is a number), q (a quoted text) or s (a sign).
type token struct {
	kind string
	says string
	at   int
}

// code is a token as the grammar has it: no blank stands in it, and one behind it.
func (t token) code() string {
	if t.kind == "q" {
		return "q" + hex.EncodeToString([]byte(t.says)) + " "
	}
	return t.kind + t.says + " "
}

func codes(l []token) string {
	var b strings.Builder
	for _, t := range l {
		b.WriteString(t.code())
	}
	return b.String()
}

// modelTokens is the tokens of a text, and the place of what is none; -1, if all is.
func modelTokens(s string) ([]token, int) {
	var l []token
	at := 0
	for {
		at += len(gap.FindString(s[at:]))
		left := s[at:]
		var said string
		switch {
		case left == "":
			return l, -1
		case sign.MatchString(left):
			said = left[:1]
			l = append(l, token{"s", said, at})
		case word.MatchString(left):
			said = word.FindString(left)
			kind := "w"
			if isNumber(said) {
				kind = "n"
			}
			l = append(l, token{kind, said, at})
		case quoted.MatchString(left):
			said = quoted.FindString(left)
			l = append(l, token{"q", unquote(said), at})
		default:
			return l, at + len(unended.FindString(left))
		}
		at += len(said)
	}
}

func isNumber(s string) bool {
	n, ok := new(big.Int).SetString(s, 10)
	return ok && numberAll.MatchString(s) && n.CmpAbs(big.NewInt(math.MaxInt64)) <= 0
}

func unquote(s string) string {
	return escaped.ReplaceAllStringFunc(s[1:len(s)-1], func(part string) string {
		switch part[1] {
		case 'n':
			return "\n"
		case 'r':
			return "\r"
		case 't':
			return "\t"
		case 'x':
			b, _ := hex.DecodeString(part[2:])
			return string(b)
		}
		return part[1:]
	})
}

// The language as the chapter's table has it. What is in pointed brackets may be left out.
var statementForms = list("name V ;", "slash ;", "date N ;", "target N ;", "head N ;", "fields N ;", "body N ;", "in N ;", "out N ;", "queue N ;", "conns N ;", "idle N ;", "linger N ;", "requests N ;", "frame N ;")

var middleForms = list("add V V ;", "set V V ;", "drop V ;", "methods V.. ;", "body N ;", "strip V ;", "basic V V.. ;", "origin N V V.. ;", "cache V ;", "host V.. ;")

var handlerForms = list("text N V V ;", "status N ;", "redirect N V ;", "echo ;", "params ;", "static V N ;", "form N ;", "count V ;", "socket ;")

var fileForms = list("media V ;", "coding V ;", "language V ;", "time N ;", "body V ;")

const (
	valueCode  = `(?:[wn][^ ]+ |q[0-9a-f]* )`
	numberCode = `n[^ ]+ `
)

// pattern is a form as a pattern over codes; here a word is never a number.
func pattern(form string) string {
	var b strings.Builder
	for _, item := range strings.Fields(form) {
		switch item {
		case "V":
			b.WriteString(valueCode)
		case "V..":
			b.WriteString(valueCode + "+")
		case "N":
			b.WriteString(numberCode)
		case "{", "}", ";":
			b.WriteString(`s\` + item + " ")
		default:
			b.WriteString("w" + item + " ")
		}
	}
	return b.String()
}

func anyOf(forms []string) string {
	var l []string
	for _, form := range forms {
		l = append(l, pattern(form))
	}
	return "(?:" + strings.Join(l, "|") + ")"
}

var (
	middlePattern = "wmiddle " + anyOf(middleForms)
	routePattern  = "wroute " + valueCode + `+s\{ (?:` + middlePattern + ")*" + anyOf(handlerForms) + `s\} `
	filePattern   = "wfile " + valueCode + `s\{ ` + anyOf(fileForms) + `*s\} `
	statement     = "(?:" + anyOf(statementForms) + "|" + middlePattern + "|" + routePattern + "|" + filePattern + ")"

	statementFirst = regexp.MustCompile(`\A` + statement)
	statementAll   = regexp.MustCompile(`\A` + statement + `?\z`)
)

// endings is all ends of statements, as codes: whatever can go on goes on with one of them.
var endings = func() []string {
	var forms []string
	forms = append(forms, statementForms...)
	for _, m := range middleForms {
		forms = append(forms, "middle "+m, "route V { middle "+m+" echo ; }")
	}
	for _, h := range handlerForms {
		forms = append(forms, "route V { "+h+" }")
	}
	for _, f := range fileForms {
		forms = append(forms, "file V { "+f+" }")
	}
	met := map[string]bool{"": true}
	for _, form := range forms {
		l := strings.Fields(form)
		for i := range l {
			end := ""
			for _, item := range l[i:] {
				switch item {
				case "V", "V..":
					end += "q "
				case "N":
					end += "n0 "
				case "{", "}", ";":
					end += "s" + item + " "
				default:
					end += "w" + item + " "
				}
			}
			met[end] = true
		}
	}
	var all []string
	for end := range met {
		all = append(all, end)
	}
	slices.SortFunc(all, func(a, b string) int {
		if len(a) != len(b) {
			return len(a) - len(b)
		}
		return strings.Compare(a, b)
	})
	return all
}()

// keyWords is the words that the language knows.
var keyWords = regexp.MustCompile(`\b[a-z]+\b`).FindAllString(strings.Join(slices.Concat(statementForms, middleForms, handlerForms, fileForms, list("middle route file")), " "), -1)

// classes is the codes of tokens where all that are alike to the grammar are the same.
func classes(l []token) string {
	var alike []token
	for _, t := range l {
		switch {
		case t.kind == "q":
			t.says = ""
		case t.kind == "n":
			t.says = "0"
		case t.kind == "w" && !slices.Contains(keyWords, t.says):
			t.says = "x"
		}
		alike = append(alike, t)
	}
	return codes(alike)
}

// goesOn is whether a statement can begin with these tokens. What was found out is kept, since it takes long.
func goesOn(l []token, known map[string]bool) bool {
	code := classes(l)
	can, met := known[code]
	if !met {
		can = slices.ContainsFunc(endings, func(end string) bool { return statementAll.MatchString(code + end) })
		known[code] = can
	}
	return can
}

var knownCodes = map[string]bool{}

// groups is the tokens of the statements at the front of a list, and those behind them.
func groups(l []token) ([][]token, []token) {
	var all [][]token
	for code := codes(l); ; {
		first := statementFirst.FindString(code)
		n := strings.Count(first, " ")
		if n == 0 {
			return all, l
		}
		all, l, code = append(all, l[:n]), l[n:], code[len(first):]
	}
}

// said is what Parse answers.
type said struct {
	config api.Config
	at     int
	err    api.Errno
}

func modelParse(s string) said {
	if len(s) > 1048576 {
		return said{api.Config{}, 1048576, api.ErrLengthy}
	}
	l, wrong := modelTokens(s)
	whole, left := groups(l)
	can := sort.Search(len(left), func(n int) bool { return !goesOn(left[:n+1], knownCodes) })
	if at := modelRepeat(append(slices.Clone(whole), left[:can])); at >= 0 {
		return said{api.Config{}, at, api.ErrRepeat}
	}
	switch {
	case can < len(left):
		return said{api.Config{}, left[can].at, api.ErrWord}
	case wrong >= 0:
		return said{api.Config{}, wrong, api.ErrSign}
	case len(left) > 0:
		return said{api.Config{}, len(s), api.ErrEnd}
	}
	c, places := modelConfig(whole)
	if spot, err := modelCheck(c); err != api.OK {
		return said{api.Config{}, places[spot], err}
	}
	return said{c, 0, api.OK}
}

// modelRepeat is the place of what stands a second time, -1 if nothing does.
func modelRepeat(whole [][]token) int {
	met := map[string]bool{}
	for _, l := range whole {
		if len(l) == 0 {
			continue
		}
		first := l[0].says
		if met[first] {
			return l[0].at
		}
		met[first] = first != "middle" && first != "route" && first != "file"
		if first != "file" || len(l) < 3 {
			continue
		}
		within := map[string]bool{}
		begins := true
		for _, t := range l[3:] {
			if begins && t.kind != "s" && within[t.says] {
				return t.at
			}
			if begins {
				within[t.says] = true
			}
			begins = t.kind == "s"
		}
	}
	return -1
}

// settingWords is the settings' words, by their numbers.
var settingWords = list("", "name", "date", "target", "head", "fields", "body", "in", "out", "queue", "conns", "idle", "linger", "requests", "frame", "slash")

// settingIn is where a setting that is a number stands.
func settingIn(c *api.Config, number int) *int {
	return []*int{nil, nil, &c.Date, &c.Limits.Target, &c.Limits.Head, &c.Limits.Fields, &c.Limits.Body, &c.In, &c.Out, &c.Queue, &c.Conns, &c.Idle, &c.Linger, &c.Requests, &c.Frame, nil}[number]
}

// settingRange is what a setting that is a number may be.
func settingRange(number int) (least, most int) {
	l := [][2]int{{}, {}, {-62135596800, 253402300799}, {1, 65536}, {2, 1048576}, {0, 100}, {0, 1073741824}, {1, 1048576}, {1, 1048576}, {1, 65536}, {1, 4096}, {0, 1073741824}, {0, 1073741824}, {0, 1073741824}, {0, 16777216}, {}}
	return l[number][0], l[number][1]
}

func number(t token) int {
	n, _ := new(big.Int).SetString(t.says, 10)
	return int(n.Int64())
}

func says(l []token) []string {
	var all []string
	for _, t := range l {
		all = append(all, t.says)
	}
	return all
}

// modelConfig is what whole statements say, and where the spots are said.
func modelConfig(whole [][]token) (api.Config, map[api.Spot]int) {
	c := api.Config{Date: -1, Limits: api.Limits{Target: 8000, Head: 16384, Fields: 100, Body: 1048576}, In: 4096, Out: 4096, Queue: 8, Conns: 64, Frame: 65536}
	places := map[api.Spot]int{}
	for _, l := range whole {
		spot := api.Spot{Kind: 1, Number: slices.Index(settingWords, l[0].says)}
		switch l[0].says {
		case "middle":
			spot = api.Spot{Kind: 2, Number: len(c.Middles)}
			c.Middles = append(c.Middles, modelMiddle(l[1:]))
		case "route":
			spot = api.Spot{Kind: 3, Number: len(c.Routes)}
			c.Routes = append(c.Routes, modelRoute(l[1:]))
		case "file":
			spot = api.Spot{Kind: 4, Number: len(c.Files)}
			c.Files = append(c.Files, modelFile(l[1:]))
		case "name":
			c.Name = l[1].says
		case "slash":
			c.Slash = true
		default:
			*settingIn(&c, spot.Number) = number(l[1])
		}
		places[spot] = l[0].at
	}
	return c, places
}

// modelMiddle is what an element is said to be, up to the semicolon.
func modelMiddle(l []token) api.Middle {
	var m api.Middle
	end := slices.IndexFunc(l, func(t token) bool { return t.kind == "s" })
	switch l[0].says {
	case "add":
		m = api.Middle{Kind: 1, Name: l[1].says, Value: l[2].says}
	case "set":
		m = api.Middle{Kind: 2, Name: l[1].says, Value: l[2].says}
	case "drop":
		m = api.Middle{Kind: 3, Name: l[1].says}
	case "methods":
		m = api.Middle{Kind: 4, List: says(l[1:end])}
	case "body":
		m = api.Middle{Kind: 5, N: number(l[1])}
	case "strip":
		m = api.Middle{Kind: 6, Value: l[1].says}
	case "basic":
		m = api.Middle{Kind: 7, Name: l[1].says, List: says(l[2:end])}
	case "origin":
		m = api.Middle{Kind: 8, N: number(l[1]), Value: l[2].says, List: says(l[3:end])}
	case "cache":
		m = api.Middle{Kind: 9, Value: l[1].says}
	case "host":
		m = api.Middle{Kind: 10, List: says(l[1:end])}
	}
	return m
}

func modelHandler(l []token) api.Handler {
	var h api.Handler
	switch l[0].says {
	case "text":
		h = api.Handler{Kind: 1, Status: number(l[1]), Media: l[2].says, Text: l[3].says}
	case "status":
		h = api.Handler{Kind: 2, Status: number(l[1])}
	case "redirect":
		h = api.Handler{Kind: 3, Status: number(l[1]), Text: l[2].says}
	case "echo":
		h = api.Handler{Kind: 4}
	case "params":
		h = api.Handler{Kind: 5}
	case "static":
		h = api.Handler{Kind: 6, Name: l[1].says, N: number(l[2])}
	case "form":
		h = api.Handler{Kind: 7, N: number(l[1])}
	case "count":
		h = api.Handler{Kind: 8, Name: l[1].says}
	case "socket":
		h = api.Handler{Kind: 9}
	}
	return h
}

func modelRoute(l []token) api.Route {
	open := slices.IndexFunc(l, func(t token) bool { return t.kind == "s" })
	x := api.Route{Methods: says(l[:open-1]), Pattern: l[open-1].says}
	l = l[open+1:]
	// A handler has no word that is middle, and is the last one.
	for l[0].says == "middle" {
		x.Middles = append(x.Middles, modelMiddle(l[1:]))
		l = l[1+slices.IndexFunc(l, func(t token) bool { return t.kind == "s" }):]
	}
	x.Handler = modelHandler(l)
	return x
}

func modelFile(l []token) api.File {
	f := api.File{Path: l[0].says, Media: shelf.MediaOf(l[0].says), Time: -1}
	for l = l[2:]; len(l) > 1; l = l[3:] {
		switch l[0].says {
		case "media":
			f.Media = l[1].says
		case "coding":
			f.Coding = l[1].says
		case "language":
			f.Language = l[1].says
		case "time":
			f.Time = number(l[1])
		case "body":
			f.Body = l[1].says
		}
	}
	return f
}

var nameAll = regexp.MustCompile(`\A(?:[\x21-\x7e\x{80}-\x{ff}](?:[\t\x20-\x7e\x{80}-\x{ff}]*[\x21-\x7e\x{80}-\x{ff}])?)?\z`)

// meets is whether a pattern takes a text, byte by byte.
func meets(p *regexp.Regexp, s string) bool {
	l := make([]rune, len(s))
	for i := range l {
		l[i] = rune(s[i])
	}
	return p.MatchString(string(l))
}

// modelCheck is Check by the words of the chapter, on what the layers below say of their things.
func modelCheck(c api.Config) (api.Spot, api.Errno) {
	if !meets(nameAll, c.Name) || len(c.Name) > 128 {
		return api.Spot{Kind: 1, Number: 1}, 203
	}
	for n := 2; n < 15; n++ {
		if least, most := settingRange(n); *settingIn(&c, n) < least || *settingIn(&c, n) > most {
			return api.Spot{Kind: 1, Number: n}, 203
		}
	}
	for i, m := range c.Middles {
		if chain.Check(m) != api.OK {
			return api.Spot{Kind: 2, Number: i}, 190
		}
	}
	if _, i, err := route.New(c.Routes, c.Slash); err != api.OK {
		return api.Spot{Kind: 3, Number: i}, err
	}
	for i, x := range c.Routes {
		if handle.Check(x.Handler) != api.OK {
			return api.Spot{Kind: 3, Number: i}, 180
		}
		for _, m := range x.Middles {
			if chain.Check(m) != api.OK {
				return api.Spot{Kind: 3, Number: i}, 190
			}
		}
	}
	if _, i, err := shelf.New(c.Files); err != api.OK {
		return api.Spot{Kind: 4, Number: i}, err
	}
	return api.Spot{}, 0
}

// modelPrint is a configuration in the language.
func modelPrint(c api.Config) (string, api.Errno) {
	if _, err := modelCheck(c); err != api.OK {
		return "", err
	}
	var l []string
	if c.Name != "" {
		l = append(l, "name "+modelQuote(c.Name)+";")
	}
	if c.Date != -1 {
		l = append(l, fmt.Sprintf("date %d;", c.Date))
	}
	for n := 3; n < 15; n++ {
		l = append(l, fmt.Sprintf("%s %d;", settingWords[n], *settingIn(&c, n)))
	}
	if c.Slash {
		l = append(l, "slash;")
	}
	for _, m := range c.Middles {
		l = append(l, modelPrintMiddle(m))
	}
	for _, x := range c.Routes {
		s := "route " + modelQuote(append(slices.Clone(x.Methods), x.Pattern)...) + " {"
		for _, m := range x.Middles {
			s += " " + modelPrintMiddle(m)
		}
		l = append(l, s+" "+modelPrintHandler(x.Handler)+"; }")
	}
	for _, f := range c.Files {
		s := "file " + modelQuote(f.Path) + " { media " + modelQuote(f.Media) + ";"
		if f.Coding != "" {
			s += " coding " + modelQuote(f.Coding) + ";"
		}
		if f.Language != "" {
			s += " language " + modelQuote(f.Language) + ";"
		}
		if f.Time != -1 {
			s += fmt.Sprintf(" time %d;", f.Time)
		}
		l = append(l, s+" body "+modelQuote(f.Body)+"; }")
	}
	return strings.Join(l, "\n") + "\n", 0
}

func modelPrintMiddle(m api.Middle) string {
	var s string
	switch m.Kind {
	case 1:
		s = "add " + modelQuote(m.Name, m.Value)
	case 2:
		s = "set " + modelQuote(m.Name, m.Value)
	case 3:
		s = "drop " + modelQuote(m.Name)
	case 4:
		s = "methods " + modelQuote(m.List...)
	case 5:
		s = fmt.Sprint("body ", m.N)
	case 6:
		s = "strip " + modelQuote(m.Value)
	case 7:
		s = "basic " + modelQuote(append(list(m.Name), m.List...)...)
	case 8:
		s = fmt.Sprint("origin ", m.N, " ") + modelQuote(append(list(m.Value), m.List...)...)
	case 9:
		s = "cache " + modelQuote(m.Value)
	case 10:
		s = "host " + modelQuote(m.List...)
	}
	return "middle " + s + ";"
}

func modelPrintHandler(h api.Handler) string {
	switch h.Kind {
	case 1:
		return fmt.Sprint("text ", h.Status, " ") + modelQuote(h.Media, h.Text)
	case 2:
		return fmt.Sprint("status ", h.Status)
	case 3:
		return fmt.Sprint("redirect ", h.Status, " ") + modelQuote(h.Text)
	case 4:
		return "echo"
	case 5:
		return "params"
	case 6:
		return "static " + modelQuote(h.Name) + fmt.Sprint(" ", h.N)
	case 7:
		return fmt.Sprint("form ", h.N)
	case 8:
		return "count " + modelQuote(h.Name)
	}
	return "socket"
}

func modelQuote(l ...string) string {
	var all []string
	for _, s := range l {
		q := ""
		for _, c := range []byte(s) {
			switch {
			case c < 32 || c > 126:
				q += fmt.Sprintf(`\x%02x`, c)
			case c == '"':
				q += `\"`
			case c == '\\':
				q += `\\`
			default:
				q += string(rune(c))
			}
		}
		all = append(all, `"`+q+`"`)
	}
	return strings.Join(all, " ")
}

// checkParse holds Parse of a text against what is wanted.
func checkParse(t *testing.T, s string, want said) {
	t.Helper()
	c, at, err := config.Parse(s)
	if !same(c, want.config) || at != want.at || err != want.err {
		t.Fatalf("Parse(%.300q): %s, %d, %d; wanted %s, %d, %d", s, show(c), at, err, show(want.config), want.at, want.err)
	}
}

// checkModel holds Parse of a text against the model, and Print of what it says.
func checkModel(t *testing.T, s string) said {
	t.Helper()
	want := modelParse(s)
	checkParse(t, s, want)
	if want.err == api.OK {
		checkPrint(t, want.config)
	}
	return want
}

// checkPrint holds Print of a configuration against the model, and that it is read back.
func checkPrint(t *testing.T, c api.Config) string {
	t.Helper()
	s, err := config.Print(c)
	want, refused := modelPrint(c)
	if s != want || err != refused {
		t.Fatalf("Print(%s): %.600q, %d; wanted %.600q, %d", show(c), s, err, want, refused)
	}
	if err == api.OK && len(s) <= 1048576 {
		checkParse(t, s, said{c, 0, api.OK})
	}
	return s
}
