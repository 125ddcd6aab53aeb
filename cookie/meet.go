package cookie

import "strings"

// numberSigns is what a host that is a number has, if it stands in no brackets.
const numberSigns = "0123456789."

// Belongs tells whether a host belongs to a domain.
func Belongs(host, domain string) bool {
	return host == domain || !isNumber(host) && strings.HasSuffix(host, point+domain)
}

// Under tells whether a path belongs to a cookie's path.
func Under(path, cookie string) bool {
	rest, begins := strings.CutPrefix(path, cookie)
	return begins && (rest == "" || strings.HasSuffix(cookie, slash) || strings.HasPrefix(rest, slash))
}

// DefaultPath is the path of a cookie that was set without one.
func DefaultPath(path string) string {
	last := strings.LastIndex(path, slash)
	if last <= 0 || !strings.HasPrefix(path, slash) {
		return slash
	}
	return path[:last]
}

func isNumber(host string) bool {
	inBrackets := strings.HasPrefix(host, "[") && strings.HasSuffix(host, "]")
	return inBrackets || strings.Trim(host, numberSigns) == ""
}
