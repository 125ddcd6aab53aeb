package field_test

import (
	"slices"
	"strings"
	"testing"

	"turnpike/api"
	"turnpike/field"
)

// 6.6, the example 5.
func TestLength(t *testing.T) {
	for _, x := range []struct {
		l    []api.Field
		want int
		has  bool
		err  api.Errno
	}{
		{nil, 0, false, api.OK},
		{of("Content-Lengt", "5", "Content-Length2", "6"), 0, false, api.OK},
		{of("Content-Length", "5, 05"), 5, true, api.OK},
		{of("content-length", "0"), 0, true, api.OK},
		{of("Content-Length", "0, 00"), 0, true, api.OK},
		{of("Content-Length", "5", "X", "6", "CONTENT-LENGTH", "5,,"), 5, true, api.OK},
		{of("Content-Length", "", "Content-Length", "7"), 7, true, api.OK},
		{of("Content-Length", " 7\t"), 7, true, api.OK},
		{of("Content-Length", "1099511627776"), 1099511627776, true, api.OK},
		{of("Content-Length", strings.Repeat("0", 100)+"1"), 1, true, api.OK},
		{of("Content-Length", "1099511627777"), 0, false, api.ErrLengths},
		{of("Content-Length", "18446744073709551621"), 0, false, api.ErrLengths},
		{of("Content-Length", ""), 0, false, api.ErrLengths},
		{of("Content-Length", " , "), 0, false, api.ErrLengths},
		{of("Content-Length", "5 6"), 0, false, api.ErrLengths},
		{of("Content-Length", "-5"), 0, false, api.ErrLengths},
		{of("Content-Length", "+5"), 0, false, api.ErrLengths},
		{of("Content-Length", "0x5"), 0, false, api.ErrLengths},
		{of("Content-Length", "\"5\""), 0, false, api.ErrLengths},
		{of("Content-Length", "5, 6"), 0, false, api.ErrLengths},
		{of("Content-Length", "0, 6"), 0, false, api.ErrLengths},
		{of("Content-Length", "6, 0"), 0, false, api.ErrLengths},
		{of("Content-Length", "5, 6, 6"), 0, false, api.ErrLengths},
		{of("Content-Length", "5", "content-length", "6"), 0, false, api.ErrLengths},
		{of("Content-Length", "5", "content-length", "a"), 0, false, api.ErrLengths},
		{of("Content-Length", "5", "content-length", "5\""), 0, false, api.ErrLengths},
	} {
		if got, has, err := field.Length(x.l); got != x.want || has != x.has || err != x.err {
			t.Errorf("Length(%.60q): %d, %v, %d", x.l, got, has, err)
		}
	}
}

// 6.7
func TestCodings(t *testing.T) {
	for _, x := range []struct {
		l    []api.Field
		want []string
		has  bool
		err  api.Errno
	}{
		{nil, nil, false, api.OK},
		{of("Transfer-Encodin", "a", "TE", "b"), nil, false, api.OK},
		{of("Transfer-Encoding", ""), nil, true, api.OK},
		{of("transfer-encoding", "Chunked"), []string{"chunked"}, true, api.OK},
		{of("Transfer-Encoding", "gZip, chunked", "X", "y", "TRANSFER-ENCODING", "a"), []string{"gzip", "chunked", "a"}, true, api.OK},
		{of("Transfer-Encoding", "a;q=1"), nil, false, api.ErrCodings},
		{of("Transfer-Encoding", "a b"), nil, false, api.ErrCodings},
		{of("Transfer-Encoding", "a", "Transfer-Encoding", "\""), nil, false, api.ErrCodings},
	} {
		if got, has, err := field.Codings(x.l); !slices.Equal(got, x.want) || has != x.has || err != x.err {
			t.Errorf("Codings(%q): %q, %v, %d", x.l, got, has, err)
		}
	}
}

// 6.8, the example 5.
func TestFraming(t *testing.T) {
	const te, cl = "Transfer-Encoding", "Content-Length"
	for _, x := range []struct {
		l        []api.Field
		want     api.Framing
		err, old api.Errno // old: what is answered where the message is of HTTP/1.0
	}{
		{nil, api.Framing{}, api.OK, api.OK},
		{of("X", "5"), api.Framing{Kind: api.FrameNone}, api.OK, api.OK},
		{of(cl, "5"), api.Framing{Kind: api.FrameLength, Length: 5}, api.OK, api.OK},
		{of(cl, "0"), api.Framing{Kind: api.FrameLength}, api.OK, api.OK},
		{of(te, "Chunked"), api.Framing{Kind: api.FrameChunked}, api.OK, api.ErrCodings},
		{of("te", "x", "TRANSFER-encoding", ", chunked ,"), api.Framing{Kind: api.FrameChunked}, api.OK, api.ErrCodings},
		{of(te, "", te, "chunked"), api.Framing{Kind: api.FrameChunked}, api.OK, api.ErrCodings},
		{of(te, "chunked", cl, "5"), api.Framing{}, api.ErrBoth, api.ErrCodings},
		{of(cl, "0", te, "chunked"), api.Framing{}, api.ErrBoth, api.ErrCodings},
		{of(te, "chunked", cl, "x"), api.Framing{}, api.ErrLengths, api.ErrCodings},
		{of(cl, "x"), api.Framing{}, api.ErrLengths, api.ErrLengths},
		{of(te, "gzip", cl, "x"), api.Framing{}, api.ErrCodings, api.ErrCodings},
		{of(te, "gzip", cl, "5"), api.Framing{}, api.ErrCodings, api.ErrCodings},
		{of(te, "\"", cl, "5"), api.Framing{}, api.ErrCodings, api.ErrCodings},
		{of(te, "gzip, chunked"), api.Framing{}, api.ErrCodings, api.ErrCodings},
		{of(te, "chunked, gzip"), api.Framing{}, api.ErrCodings, api.ErrCodings},
		{of(te, "chunked, chunked"), api.Framing{}, api.ErrCodings, api.ErrCodings},
		{of(te, "chunked", te, "chunked"), api.Framing{}, api.ErrCodings, api.ErrCodings},
		{of(te, ""), api.Framing{}, api.ErrCodings, api.ErrCodings},
		{of(te, "identity"), api.Framing{}, api.ErrCodings, api.ErrCodings},
		{of(te, "\"chunked\""), api.Framing{}, api.ErrCodings, api.ErrCodings},
		{of(te, "chunked;a=b"), api.Framing{}, api.ErrCodings, api.ErrCodings},
	} {
		if got, err := field.Framing(x.l, false); got != x.want || err != x.err {
			t.Errorf("Framing(%q, false): %v, %d", x.l, got, err)
		}
		want := x.want
		if x.old != api.OK {
			want = api.Framing{}
		}
		if got, err := field.Framing(x.l, true); got != want || err != x.old {
			t.Errorf("Framing(%q, true): %v, %d", x.l, got, err)
		}
	}
}

// 6.6 to 6.8, 6.12: all short lists, held against a model; what follows of the answers.
func TestFramingAgainstModel(t *testing.T) {
	names := []string{"Content-Length", "content-length", "Transfer-Encoding", "TRANSFER-ENCODING", "X"}
	values := []string{"", "5", "05", "6, 6", "x", "chunked", "CHUNKED,", "gzip", "\"", "1099511627776", "1099511627777"}
	for l := range fieldLists(names, values, 3) {
		n, has, err := field.Length(l)
		if wantN, wantHas, wantErr := modelLength(l); n != wantN || has != wantHas || err != wantErr {
			t.Fatalf("Length(%q): %d, %v, %d; want %d, %v, %d", l, n, has, err, wantN, wantHas, wantErr)
		}
		for _, old := range []bool{false, true} {
			got, err := field.Framing(l, old)
			if want, wantErr := modelFraming(l, old); got != want || err != wantErr {
				t.Fatalf("Framing(%q, %v): %v, %d; want %v, %d", l, old, got, err, want, wantErr)
			}
			checkFramed(t, l, got, err)
		}
	}
}

func checkFramed(t *testing.T, l []api.Field, f api.Framing, err api.Errno) {
	t.Helper()
	_, sized := field.Find(l, "Content-Length")
	_, coded := field.Find(l, "Transfer-Encoding")
	if err == api.OK && (sized != (f.Kind == api.FrameLength) || coded != (f.Kind == api.FrameChunked)) {
		t.Fatalf("Framing(%q): %v", l, f)
	}
}

// 6.9, the example 4.
func TestPersist(t *testing.T) {
	for _, x := range []struct {
		l         []api.Field
		want, old bool
	}{
		{nil, true, false},
		{of("Connection", ""), true, false},
		{of("Connection", "close"), false, false},
		{of("connection", "x, CLOSE"), false, false},
		{of("Connection", "Keep-Alive"), true, true},
		{of("CONNECTION", "x", "Connection", "keep-alive"), true, true},
		{of("Connection", "close", "connection", " Keep-Alive"), false, false},
		{of("Connection", "Keep-Alive, close"), false, false},
		{of("Connection", "upgrade"), true, false},
		{of("Connection", "a b"), false, false},
		{of("Connection", "keep-alive", "Connection", "\""), false, false},
		{of("Connection", "keep-alive, a/b"), false, false},
		{of("Keep-Alive", "close", "Close", "close", "Proxy-Connection", "keep-alive"), true, false},
	} {
		if got := field.Persist(x.l, false); got != x.want {
			t.Errorf("Persist(%q, false): %v", x.l, got)
		}
		if got := field.Persist(x.l, true); got != x.old {
			t.Errorf("Persist(%q, true): %v", x.l, got)
		}
	}
}

// 6.10, the example 6.
func TestHost(t *testing.T) {
	for _, x := range []struct {
		l    []api.Field
		want string
		has  bool
		err  api.Errno
	}{
		{of("Host", ""), "", true, api.OK},
		{of("HOST", "a.b:80"), "a.b:80", true, api.OK},
		{of("X", "y", "host", "A"), "A", true, api.OK},
		{of("Host", "[::1]:8"), "[::1]:8", true, api.OK},
		{of("Host", "!$%&'()*+,-.:;=[]^_`{|}~09azAZ"), "!$%&'()*+,-.:;=[]^_`{|}~09azAZ", true, api.OK},
		{of("Host", "a", "HOST", "a"), "", false, api.ErrHosts},
		{of("Host", "", "Host", ""), "", false, api.ErrHosts},
		{of("Host", "a", "Host", "b", "Host", "c"), "", false, api.ErrHosts},
		{of("Host", "a/b"), "", false, api.ErrHosts},
		{of("Host", " a"), "", false, api.ErrHosts},
		{of("Host", "a b"), "", false, api.ErrHosts},
		{of("Host", "u@a"), "", false, api.ErrHosts},
	} {
		for _, old := range []bool{false, true} {
			if got, has, err := field.Host(x.l, old); got != x.want || has != x.has || err != x.err {
				t.Errorf("Host(%q, %v): %q, %v, %d", x.l, old, got, has, err)
			}
		}
	}
	for _, l := range [][]api.Field{nil, of("Hosts", "a"), of("X", "a", "", "b")} {
		if got, has, err := field.Host(l, false); got != "" || has || err != api.ErrHosts {
			t.Errorf("Host(%q, false): %q, %v, %d", l, got, has, err)
		}
		if got, has, err := field.Host(l, true); got != "" || has || err != api.OK {
			t.Errorf("Host(%q, true): %q, %v, %d", l, got, has, err)
		}
	}
}

// 6.10: each byte, alone and within.
func TestHostEachByte(t *testing.T) {
	for c := range 256 {
		b := string([]byte{byte(c)})
		right := c >= 33 && c <= 126 && !strings.Contains("\"#/<>?@\\", b)
		for _, s := range []string{b, "a" + b, b + "a"} {
			want, err := s, api.OK
			if !right {
				want, err = "", api.ErrHosts
			}
			if got, has, gotErr := field.Host(of("Host", s), false); got != want || has != right || gotErr != err {
				t.Errorf("Host of %q: %q, %v, %d", s, got, has, gotErr)
			}
		}
	}
}

// 6.11, the example 7.
func TestOnward(t *testing.T) {
	hop := of("Connection", "", "Keep-Alive", "", "Proxy-Connection", "", "TE", "", "Trailer", "", "Transfer-Encoding", "", "Upgrade", "")
	for _, x := range []struct{ l, want []api.Field }{
		{nil, nil},
		{of("Connection", "x, close", "X", "1", "TE", "t", "A", "2"), of("A", "2")},
		{hop, nil},
		{of("CONNECTION", "", "keep-alive", "", "proxy-connection", "", "te", "", "TRAILER", "", "transfer-ENCODING", "", "upgrade", ""), nil},
		{of("Connections", "", "Keepalive", "", "T", "", "Trailers", "", "", "", "X", ""), of("Connections", "", "Keepalive", "", "T", "", "Trailers", "", "", "", "X", "")},
		{of("X", "1", "x", "2", "Y", "3", "connection", "X", "CONNECTION", "z,Q", "q", "4", "Y", "5"), of("Y", "3", "Y", "5")},
		{of("X", "1", "Connection", "x y"), of("X", "1")},
		{of("X", "1", "Connection", "x", "Connection", "\""), of("X", "1")},
		{of("X", "1", "Connection", "x", "Connection", "a/b", "TE", "t"), of("X", "1")},
		{of("Content-Length", "5", "Host", "h", "Connection", "host"), of("Content-Length", "5")},
	} {
		if got := field.Onward(x.l); !slices.Equal(got, x.want) {
			t.Errorf("Onward(%q): %q", x.l, got)
		}
	}
}

// 6.9, 6.11, 6.12: all short lists, held against a model.
func TestHopsAgainstModel(t *testing.T) {
	names := []string{"Connection", "connection", "X", "x", "Y", "te"}
	values := []string{"", "close", "X", "x,KEEP-ALIVE", "Y y", "\"", " y ,"}
	for l := range fieldLists(names, values, 3) {
		if got, want := field.Onward(l), modelOnward(l); !slices.Equal(got, want) {
			t.Fatalf("Onward(%q): %q; want %q", l, got, want)
		}
		for _, old := range []bool{false, true} {
			if got := field.Persist(l, old); got != modelPersist(l, old) {
				t.Fatalf("Persist(%q, %v): %v", l, old, got)
			}
		}
	}
}

// 6.12: neither the case of a name nor fields of other names have a part in what is said.
func TestCaseAndOthers(t *testing.T) {
	names := []string{"Content-Length", "Transfer-Encoding", "Connection", "Host"}
	values := []string{"5", "chunked", "close", "\"", ""}
	for l := range fieldLists(names, values, 2) {
		changed := of("Other", "5, 6")
		for _, f := range l {
			changed = append(changed, api.Field{Name: strings.ToUpper(f.Name), Value: f.Value}, api.Field{Name: f.Name + "-x", Value: "\""})
		}
		for _, old := range []bool{false, true} {
			if a, b := said(l, old), said(changed, old); a != b {
				t.Fatalf("of %q: %+v; of %q: %+v", l, a, changed, b)
			}
		}
	}
}

type sayings struct {
	length   int
	framing  api.Framing
	host     string
	has      [3]bool
	persist  bool
	errs     [4]api.Errno
	codings  string
	joined   string
	elements string
}

func said(l []api.Field, old bool) sayings {
	var s sayings
	var codings, elements []string
	s.length, s.has[0], s.errs[0] = field.Length(l)
	codings, s.has[1], s.errs[1] = field.Codings(l)
	s.framing, s.errs[2] = field.Framing(l, old)
	s.host, s.has[2], s.errs[3] = field.Host(l, old)
	s.persist = field.Persist(l, old)
	s.joined, _ = field.Joined(l, "connection")
	elements, _ = field.List(l, "CONNECTION")
	s.codings, s.elements = strings.Join(codings, "|"), strings.Join(elements, "|")
	return s
}
