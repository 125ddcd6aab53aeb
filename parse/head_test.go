package parse_test

import (
	"strconv"
	"strings"
	"testing"

	"turnpike/api"
)

// 11.2: line ends ahead of a request are passed over, and belong to it.
func TestLineEndsAhead(t *testing.T) {
	const plain = "GET / HTTP/1.0\r\n\r\n"
	for _, n := range []int{0, 1, 2, 100, 10000} {
		ahead := strings.Repeat("\r\n", n)
		checkWhole(t, usual(), ahead+plain, done(request("GET", "/", 0), len(ahead)+len(plain)))
		checkWhole(t, usual(), ahead, more(ahead))
		checkWhole(t, usual(), ahead+"\r", more(ahead+"\r"))
		checkFault(t, usual(), ahead+"G@T", 400, api.ErrMethod, len(ahead)+1)
		for _, c := range []byte(everyByte()) {
			if c != '\n' {
				checkFault(t, usual(), ahead+"\r"+string([]byte{c}), 400, api.ErrLine, len(ahead)+1)
			}
		}
		checkFault(t, usual(), ahead+"\n", 400, api.ErrMethod, len(ahead))
		checkFault(t, usual(), ahead+" GET", 400, api.ErrMethod, len(ahead))
	}
}

// 11.2: each byte, as the first, as the second and as the last one of a method.
func TestMethodBytes(t *testing.T) {
	for _, c := range []byte(everyByte()) {
		one := string([]byte{c})
		token := front(methodSigns, one) == 1
		for _, ahead := range []string{"", "G", strings.Repeat("G", 23)} {
			s := ahead + one + " / HTTP/1.0\r\n\r\n"
			switch {
			case token:
				checkWhole(t, usual(), s, done(request(ahead+one, "/", 0), len(s)))
			case c == '\r' && ahead == "":
				checkFault(t, usual(), s, 400, api.ErrLine, 1)
			case c == ' ' && ahead != "":
				checkFault(t, usual(), s, 400, api.ErrLine, len(ahead)+1)
			default:
				checkFault(t, usual(), s, 400, api.ErrMethod, len(ahead))
			}
		}
	}
}

// 11.2: a method has at most 24 signs; what is no sign is told ahead of that.
func TestLongMethod(t *testing.T) {
	full := strings.Repeat("M", 24)
	s := full + " / HTTP/1.0\r\n\r\n"
	checkWhole(t, usual(), s, done(request(full, "/", 0), len(s)))
	checkFault(t, usual(), full+"M / HTTP/1.0\r\n\r\n", 501, api.ErrMethod, 24)
	checkFault(t, usual(), full+"@", 400, api.ErrMethod, 24)
	checkFault(t, usual(), full+"\r", 400, api.ErrMethod, 24)
	checkFault(t, usual(), "\r\n"+full+"M", 501, api.ErrMethod, 26)
}

// 11.2: each byte, as the first and as a later one of a target.
func TestTargetBytes(t *testing.T) {
	for _, c := range []byte(everyByte()) {
		for _, ahead := range []string{"", "/", "/abc"} {
			s := "GET " + ahead + string([]byte{c}) + " HTTP/1.0\r\n\r\n"
			at := len("GET ") + len(ahead)
			switch {
			case c == ' ' && ahead != "":
				checkFault(t, usual(), s, 400, api.ErrLine, at+1)
			case c < 33 || c > 126:
				checkFault(t, usual(), s, 400, api.ErrLine, at)
			default:
				checkWhole(t, usual(), s, modelWhole(usual(), s))
			}
		}
	}
}

// 11.2, R6: a target has at most so many bytes as its limit says; what may not stand there is told ahead of that.
func TestLongTarget(t *testing.T) {
	for _, n := range []int{1, 2, 8000, 65536} {
		l := narrow(func(l *api.Limits) { l.Target = n })
		full := "/" + strings.Repeat("a", n-1)
		s := "GET " + full + " HTTP/1.0\r\n\r\n"
		checkWhole(t, l, s, done(request("GET", full, 0), len(s)))
		checkFault(t, l, "GET "+full+"a HTTP/1.0\r\n\r\n", 414, api.ErrLong, 4+n)
		checkFault(t, l, "GET "+full+"~", 414, api.ErrLong, 4+n)
		checkFault(t, l, "GET "+full+"\x7f", 400, api.ErrLine, 4+n)
		checkFault(t, l, "GET "+full+"\r", 400, api.ErrLine, 4+n)
	}
}

// 11.2: each byte in the place of each byte of the version and of the line's end.
func TestVersionBytes(t *testing.T) {
	const ahead, version = "GET / ", "HTTP/1.0\r\n"
	for i := range version {
		for _, c := range []byte(everyByte()) {
			digit := (i == 5 || i == 7) && c >= '0' && c <= '9'
			if c == version[i] || digit {
				continue
			}
			checkFault(t, usual(), ahead+version[:i]+string([]byte{c})+version[i+1:]+"\r\n", 400, api.ErrLine, len(ahead)+i)
		}
	}
	for _, s := range []string{"http/1.0\r\n", "HTTP/11\r\n", "HTTP/1.10\r\n", "HTTP/01.0\r\n", " HTTP/1.0\r\n", "HTTP/1.0 \r\n", "HTTP/1.0\n"} {
		if o := whole(usual(), ahead+s+"\r\n"); o.kind != api.ParseFault || o.fault.Err != api.ErrLine || o.fault.Status != 400 {
			t.Errorf("%q: %v", s, o)
		}
	}
}

// 11.2: there are two versions; another one is told at the line's last byte, ahead of a target that is refused.
func TestVersions(t *testing.T) {
	for major := range 10 {
		for minor := range 10 {
			s := "GET / HTTP/" + strconv.Itoa(major) + "." + strconv.Itoa(minor) + "\r\nHost: a\r\n\r\n"
			if major == 1 && minor < 2 {
				checkWhole(t, usual(), s, done(request("GET", "/", minor, hostA), len(s)))
				continue
			}
			checkFault(t, usual(), s, 505, api.ErrVersion, 15)
		}
	}
	checkFault(t, usual(), lines("GET % HTTP/1.2|"), 505, api.ErrVersion, 15)
}

// 11.2: a target is refused by target.Parse at the line's last byte, by the method that it has.
func TestTargets(t *testing.T) {
	for _, p := range []struct {
		method, target string
		err            api.Errno
	}{
		{"GET", "/a%4", api.ErrPercent}, {"GET", "/?%g0", api.ErrPercent}, {"GET", "*", api.ErrForm}, {"GET", "a", api.ErrForm},
		{"GET", "/a\"", api.ErrPath}, {"GET", "/?#", api.ErrQuery}, {"GET", "http://a@b/", api.ErrAuthority},
		{"CONNECT", "/", api.ErrAuthority}, {"CONNECT", "a", api.ErrAuthority}, {"GET", "a:1", api.ErrForm}, {"options", "*", api.ErrForm},
	} {
		s := p.method + " " + p.target + " HTTP/1.1\r\n"
		checkFault(t, usual(), s, 400, p.err, len(s)-1)
	}
	for _, p := range [][2]string{{"GET", "http://A.b:80"}, {"CONNECT", "a.b:443"}, {"OPTIONS", "*"}, {"GET", "/a/../%7e?x=%00"}} {
		s := p[0] + " " + p[1] + " HTTP/1.0\r\n\r\n"
		checkWhole(t, usual(), s, done(request(p[0], p[1], 0), len(s)))
	}
}

// 11.2, R6: the lines of fields have at most so many bytes as the limit says, their ends and the empty line with them.
func TestLongHead(t *testing.T) {
	const line = "GET / HTTP/1.0\r\n"
	at := func(n int) api.Limits { return narrow(func(l *api.Limits) { l.Head = n }) }
	for _, fields := range []string{"\r\n", "A:1\r\n\r\n", "A:1\r\nB: 22\r\n\r\n"} {
		n := len(fields)
		if o := whole(at(n), line+fields); o.kind != api.ParseDone || o.n != len(line)+n {
			t.Errorf("%q: %v", fields, o)
		}
		if o := whole(at(n), line+fields+line+fields); o.kind != api.ParseDone || o.n != len(line)+n {
			t.Errorf("%q, twice: %v", fields, o)
		}
		for room := 2; room < n; room++ {
			checkFault(t, at(room), line+fields, 431, api.ErrFields, len(line)+room)
		}
	}
	// It is told ahead of a line end that is none, of too many fields, and of a line that is refused.
	checkFault(t, at(3), line+"A:1\n", 431, api.ErrFields, len(line)+3)
	checkFault(t, at(2), line+"A\rx", 431, api.ErrFields, len(line)+2)
	checkFault(t, narrow(func(l *api.Limits) { l.Head, l.Fields = 4, 0 }), line+"A:1\r\n", 431, api.ErrFields, len(line)+4)
	checkFault(t, at(4), line+"A 1\r\n", 431, api.ErrFields, len(line)+4)
	checkFault(t, at(9), "GET / HTTP/1.1\r\nA: bcd\r\n\r\n", 431, api.ErrFields, len(line)+9)
	// The widest limit.
	long := strings.Repeat(strings.Repeat("A", 128)+":"+strings.Repeat("x", 8192)+"\r\n", 100)
	o := whole(at(1048576), line+long+"\r\n")
	if o.kind != api.ParseDone || len(o.request.Fields) != 100 || o.n != len(line+long)+2 {
		t.Error("a long head:", o.kind, o.fault, o.n)
	}
	checkFault(t, at(1048576), line+strings.Repeat("x", 1048577), 431, api.ErrFields, len(line)+1048576)
}

// 11.2: line ends that are none, within the lines of fields.
func TestBrokenLines(t *testing.T) {
	const line = "GET / HTTP/1.0\r\n"
	for _, fields := range []string{"\n", "A: 1\n", "A\n", "A: 1\r\n\n", "\r\r", "\rx", "A: 1\rx", "A: 1\r\r", "A: 1\r\n\r\r", "A: 1\r\n\rA", "A: 1\r\nB\n", ":\r:", "\r\x00"} {
		s := line + fields
		checkFault(t, usual(), s, 400, api.ErrLine, len(s)-1)
	}
	for _, c := range []byte(everyByte()) {
		if c != '\n' {
			checkFault(t, usual(), line+"A: 1\r"+string([]byte{c}), 400, api.ErrLine, len(line)+5)
		}
	}
}

// 11.2, R6: there are at most so many fields as the limit says, and that is told ahead of a line that is refused.
func TestManyFields(t *testing.T) {
	const line = "GET / HTTP/1.0\r\n"
	for _, n := range []int{0, 1, 2, 99, 100} {
		l := narrow(func(l *api.Limits) { l.Fields = n })
		fields := strings.Repeat("A: 1\r\n", n)
		o := whole(l, line+fields+"\r\n")
		if o.kind != api.ParseDone || len(o.request.Fields) != n {
			t.Errorf("%d fields: %v", n, o)
		}
		for _, over := range []string{"A: 1\r\n", " \r\n", "no colon\r\n", "x\r\n"} {
			s := line + fields + over
			checkFault(t, l, s, 431, api.ErrFields, len(s)-1)
		}
		s := line + fields + "A: 1\n"
		checkFault(t, l, s, 400, api.ErrLine, len(s)-1)
	}
}

// 11.2: a line that field.ParseLine refuses is met at its last byte, and told of the place in it.
func TestLinesRefused(t *testing.T) {
	for _, ahead := range []string{"GET / HTTP/1.0\r\n", "\r\nGET / HTTP/1.1\r\nHost: a\r\n", "GET / HTTP/1.1\r\nA:\r\nBc: def\r\n"} {
		for _, p := range []struct {
			line string
			at   int
			err  api.Errno
		}{
			{" A: c", 0, api.ErrFolded}, {"\tA: c", 0, api.ErrFolded}, {" ", 0, api.ErrFolded},
			{"abc", 3, api.ErrColon}, {"x", 1, api.ErrColon},
			{": c", 0, api.ErrName}, {":", 0, api.ErrName}, {"A b: c", 1, api.ErrName}, {"A : c", 1, api.ErrName}, {strings.Repeat("n", 129) + ":", 128, api.ErrName},
			{"A: b\x01", 4, api.ErrValue}, {"A:\x00", 2, api.ErrValue}, {"A: \x7fx", 3, api.ErrValue}, {"A: " + strings.Repeat("v", 8193), 3 + 8192, api.ErrValue},
		} {
			s := ahead + p.line + "\r\n"
			want := failedOf(400, p.err, len(s)-1, len(ahead)+p.at)
			checkWhole(t, usual(), s, want)
			checkWhole(t, usual(), s+"\r\n", want)
			checkWhole(t, usual(), s[:len(s)-1], more(s[:len(s)-1]))
		}
	}
}

// checkHead holds the fault of a request with such lines of fields, which is told at the last byte of the empty line.
func checkHead(t *testing.T, l api.Limits, line, fields string, status int, err api.Errno) {
	t.Helper()
	s := lines(line + "|" + fields + "|")
	checkFault(t, l, s, status, err, len(s)-1)
}

// 11.2: what the fields say together is refused at the empty line's last byte, in the table's order.
func TestHeadsRefused(t *testing.T) {
	const now, old = "GET / HTTP/1.1", "GET / HTTP/1.0"
	checkHead(t, usual(), now, "Transfer-Encoding: gzip|", 501, api.ErrCodings)
	checkHead(t, usual(), now, "Host: a|Transfer-Encoding: gzip, chunked|", 501, api.ErrCodings)
	checkHead(t, usual(), now, "Host: a|Transfer-Encoding: chunked|Transfer-Encoding: chunked|", 501, api.ErrCodings)
	checkHead(t, usual(), now, "Host: a|Transfer-Encoding:|", 501, api.ErrCodings)
	checkHead(t, usual(), old, "Transfer-Encoding: chunked|", 501, api.ErrCodings)
	checkHead(t, usual(), now, "Host: a|Content-Length: x|", 400, api.ErrLengths)
	checkHead(t, usual(), now, "Host: a|Content-Length: 1, 2|", 400, api.ErrLengths)
	checkHead(t, usual(), now, "Host: a|Content-Length: 1099511627777|", 400, api.ErrLengths)
	checkHead(t, usual(), now, "Host: a|Content-Length: 1|Transfer-Encoding: chunked|", 400, api.ErrBoth)
	// Framing comes ahead of the host.
	checkHead(t, usual(), now, "Content-Length: x|", 400, api.ErrLengths)
	checkHead(t, usual(), now, "Content-Length: 0|Transfer-Encoding: chunked|", 400, api.ErrBoth)

	checkHead(t, usual(), now, "", 400, api.ErrHosts)
	checkHead(t, usual(), now, "A: b|", 400, api.ErrHosts)
	checkHead(t, usual(), now, "Host: a|host: a|", 400, api.ErrHosts)
	checkHead(t, usual(), old, "Host: a|HOST: b|", 400, api.ErrHosts)
	checkHead(t, usual(), now, "Host: a/b|", 400, api.ErrHosts)
	checkHead(t, usual(), now, "Host: a b|", 400, api.ErrHosts)
	checkHead(t, usual(), now, "Host: a:b|", 400, api.ErrAuthority)
	checkHead(t, usual(), old, "Host: [::1|", 400, api.ErrAuthority)
	checkHead(t, usual(), now, "Host: a:65536|", 400, api.ErrAuthority)
	checkHead(t, usual(), now, "Host: :80|", 400, api.ErrAuthority)
	// The host comes ahead of what is expected, and that ahead of a length.
	checkHead(t, usual(), now, "Expect: x|", 400, api.ErrHosts)
	checkHead(t, usual(), now, "Expect: x|Host: a:b|", 400, api.ErrAuthority)
	checkHead(t, usual(), now, "Host: a|Expect: x|Content-Length: 9999999|", 417, api.ErrExpect)
	checkHead(t, usual(), now, "Content-Length: 9999999|", 400, api.ErrHosts)

	for _, s := range []string{"", ",", "x", "100-continue, x", "100-continue, 100-continue", "100", "100-continue;q=1", "100 continue", `"100-continue"`, `"`, "100-continued"} {
		checkHead(t, usual(), now, "Host: a|Expect: "+s+"|", 417, api.ErrExpect)
		checkHead(t, usual(), old, "EXPECT: "+s+"|", 417, api.ErrExpect)
	}
	checkHead(t, usual(), now, "Host: a|Expect: 100-continue|expect: 100-continue|", 417, api.ErrExpect)
	checkHead(t, usual(), now, "Host: a|Expect: 100-continue|Expect: x|", 417, api.ErrExpect)

	checkHead(t, usual(), now, "Host: a|Content-Length: 1048577|", 413, api.ErrBody)
	checkHead(t, usual(), old, "Content-Length: 1099511627776|", 413, api.ErrBody)
	checkHead(t, narrow(func(l *api.Limits) { l.Body = 0 }), old, "Content-Length: 1|", 413, api.ErrBody)
}

// 11.2: heads that are taken.
func TestHeadsTaken(t *testing.T) {
	const now, old = "GET / HTTP/1.1|", "GET / HTTP/1.0|"
	for s, want := range map[string]api.Request{
		now + "Host:|":                                request("GET", "/", 1, api.Field{Name: "Host"}),
		now + "HOST: [::1]:8080|":                     request("GET", "/", 1, api.Field{Name: "HOST", Value: "[::1]:8080"}),
		now + "host:  a: \t|":                         request("GET", "/", 1, api.Field{Name: "host", Value: "a:"}),
		now + "Host: a|Expect: 100-Continue|":         request("GET", "/", 1, hostA, api.Field{Name: "Expect", Value: "100-Continue"}),
		now + "Host: a|Expect: , 100-continue,|":      request("GET", "/", 1, hostA, api.Field{Name: "Expect", Value: ", 100-continue,"}),
		now + "Host: a|Expect:|expect: 100-CONTINUE|": request("GET", "/", 1, hostA, api.Field{Name: "Expect"}, api.Field{Name: "expect", Value: "100-CONTINUE"}),
		old + "Expect: 100-continue|":                 request("GET", "/", 0, api.Field{Name: "Expect", Value: "100-continue"}),
		now + "Host: a|Content-Length: 0, 00|":        request("GET", "/", 1, hostA, api.Field{Name: "Content-Length", Value: "0, 00"}),
		old + "B: 2|A: 1|B: 3|a:|":                    request("GET", "/", 0, api.Field{Name: "B", Value: "2"}, api.Field{Name: "A", Value: "1"}, api.Field{Name: "B", Value: "3"}, api.Field{Name: "a"}),
	} {
		s = lines(s + "|")
		checkWhole(t, usual(), s, done(want, len(s)))
		checkWhole(t, usual(), s+"\x00", done(want, len(s)))
	}
}
