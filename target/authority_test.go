package target_test

import (
	"strings"
	"testing"

	"turnpike/api"
	"turnpike/target"
)

func checkAuthority(t *testing.T, s, host string, port int) {
	t.Helper()
	if h, n, err := target.Authority(s); h != host || n != port || err != api.OK {
		t.Errorf("Authority(%q): %q, %d, %d; want %q, %d", s, h, n, err, host, port)
	}
}

func checkNoAuthority(t *testing.T, s string) {
	t.Helper()
	if h, n, err := target.Authority(s); h != "" || n != 0 || err != api.ErrAuthority {
		t.Errorf("Authority(%q): %q, %d, %d; want ErrAuthority", s, h, n, err)
	}
}

// 5.3, the example 4.
func TestAuthority(t *testing.T) {
	checkAuthority(t, "[::1]:8", "[::1]", 8)
	checkAuthority(t, "a:", "a", -1)
	checkAuthority(t, "a", "a", -1)
	checkAuthority(t, "[::]:", "[::]", -1)
	checkAuthority(t, "A-b.C_~!$&'()*+,;=%4F:65535", "a-b.c_~!$&'()*+,;=%4f", 65535)
	checkAuthority(t, "[::FFFF:1.2.3.4]:0", "[::ffff:1.2.3.4]", 0)
	checkAuthority(t, "1.2.3.4:00080", "1.2.3.4", 80)
	checkAuthority(t, "999.999", "999.999", -1)
	for _, s := range []string{"[1:2:3:4:5:6:7:8]", "[::ffff:1.2.3.4]", "[1::]", "[1:2:3:4:5:6::8]", "[1:2:3:4:5:6:7::]", "[::2:3:4:5:6:7:8]", "[::]",
		"[1:2:3:4:5:6:0.0.0.255]", "[1:2:3:4:5::1.2.3.4]", "[0000:abcd::0]", "[::1.10.100.0]"} {
		checkAuthority(t, s, s, -1)
	}
	for _, s := range []string{"[1:2]", "[::1", "[1::2::3]", "[:::]", "[12345::]", "[::256.0.0.1]", "[1:2:3:4:5:6:7::8]", "a:65536", ":1",
		"", ":", "::", "[", "]", "[]", "[]:1", "[::1]x", "[::1]8", "[::1]:x", "[::1]::", "x[::1]", "[[::1]]", "::1", "[::1]]", "[::1:8",
		"[:1:2:3:4:5:6:7]", "[1:2:3:4:5:6:7:]", "[1:2:3:4:5:6:7:8:9]", "[::::]", "[g::]", "[::1%25]", "[::1%eth0]", "[v1.a]", "[ ::1]", "[00001::]",
		"[1.2.3.4]", "[1.2.3.4::]", "[::1.2.3.4:5]", "[::1.2.3]", "[::1.2.3.4.5]", "[::01.2.3.4]", "[::1.2.3.00]", "[::1.2.3.]", "[::.1.2.3]", "[::1.2.3.+4]", "[::a.2.3.4]",
		"[1:2:3:4:5:6::1.2.3.4]", "[1:2:3:4:5:6:7:1.2.3.4]", "[1:2:3:4:5:1.2.3.4]", "[1.2.3.4:1:2:3:4:5:6]", "[1:2:3:4:5:1.2.3.4::]",
		"a:000080", "a:100000", "a:-1", "a:+1", "a:1x", "a: 1", "a:1:2", "a::1", "a:1:", "a@b", "a/b", "a?b", "a#b", "a b", " a", "a%", "a%4", "a%4g", "\xc3\xa4", "a\x00"} {
		checkNoAuthority(t, s)
	}
}

// 5.3: hosts, addresses and ports of all sorts of pieces, held against the model.
func TestAuthorityModel(t *testing.T) {
	check := func(s string) {
		if host, port, good := modelAuthority(s); good {
			checkAuthority(t, s, host, port)
		} else {
			checkNoAuthority(t, s)
		}
	}
	for s := range texts([]string{"a", "%", "4F", ":", "80", "0", "[", "]", "[::1]", "_", "/", "\xe9"}, 4) {
		check(s)
	}
	for s := range texts([]string{":", "::", "1", "F0", "12.3.4.5", "abcd"}, 5) {
		check("[" + s + "]")
	}
	for s := range texts([]string{".", "0", "25", "5", "6"}, 7) {
		check("[::1.2" + s + "]")
	}
	for ahead := range 10 { // so many groups ahead of :: and behind it, and numbers at the end
		for behind := range 10 {
			front, back := strings.Repeat("1:", ahead), strings.Repeat(":2", behind)
			for _, s := range []string{front + back, front + ":" + back, front + ":" + strings.TrimPrefix(back, ":"), strings.TrimSuffix(front, ":") + back} {
				for _, end := range []string{"", ":", "::", ":1.2.3.4", "1.2.3.4", "::1.2.3.4"} {
					check("[" + s + end + "]")
				}
			}
		}
	}
}

// 5.3: all ports, at their edges with zeros ahead.
func TestPorts(t *testing.T) {
	for s := range texts([]string{"0", "1", "5", "6"}, 7) {
		for _, host := range []string{"a", "[::]"} {
			if _, port, good := modelAuthority(host + ":" + s); good {
				checkAuthority(t, host+":"+s, host, port)
			} else {
				checkNoAuthority(t, host+":"+s)
			}
		}
	}
	checkAuthority(t, "a:65534", "a", 65534)
	checkAuthority(t, "a:65535", "a", 65535)
	for _, s := range []string{"65536", "65540", "65600", "66000", "70000", "99999"} {
		checkNoAuthority(t, "a:"+s)
	}
}
