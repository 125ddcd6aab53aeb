package cookie

import (
	"strings"

	"turnpike/api"
	"turnpike/octet"
	"turnpike/stamp"
)

// sameWords is the words of SameSite by their numbers.
var sameWords = [...]string{api.SameNone: "", api.SameLax: "Lax", api.SameStrict: "Strict", api.SameAny: "None"}

// ParseSet is the cookie that a server sets.
func ParseSet(s string, now int) (api.SetCookie, api.Errno) {
	first, attributes, _ := strings.Cut(s, semicolon)
	told, good := readCookie(first)
	if !good {
		return api.SetCookie{}, api.ErrCookie
	}
	c := api.SetCookie{Name: told.Name, Value: told.Value}
	read := readers(&c, now)
	for _, piece := range strings.Split(attributes, semicolon) {
		word, value, _ := cut(piece)
		if take, known := read[octet.Lower(word)]; known {
			take(value)
		}
	}
	return c, api.OK
}

// readers is what reads an attribute's value into a cookie, by the attribute's word. One that does not count leaves the cookie as it is.
func readers(c *api.SetCookie, now int) map[string]func(value string) {
	return map[string]func(value string){
		"expires": func(value string) {
			if moment, _, err, _ := stamp.Parse(value, now); err == api.OK {
				c.Expires, c.HasExpires = moment, true
			}
		},
		"max-age": func(value string) {
			if age, good := readAge(value); good {
				c.MaxAge, c.HasMaxAge = age, true
			}
		},
		"domain": func(value string) {
			if domain := strings.TrimPrefix(octet.Lower(value), point); isDomain(domain) {
				c.Domain = domain
			}
		},
		"path": func(value string) {
			c.Path = ""
			if isPath(value) {
				c.Path = value
			}
		},
		"secure":   func(string) { c.Secure = true },
		"httponly": func(string) { c.HttpOnly = true },
		"samesite": func(value string) { c.SameSite = readSame(value) },
	}
}

// readAge is an age within its limits, whatever the digits say.
func readAge(value string) (int, bool) {
	digits, negative := strings.CutPrefix(value, "-")
	age, err := octet.Decimal(digits, api.MaxAges)
	switch {
	case err == api.ErrDigits:
		return 0, false
	case negative:
		return 0, true
	case err == api.ErrBig:
		return api.MaxAges, true
	}
	return age, true
}

func readSame(value string) int {
	for same, word := range sameWords {
		if octet.Same(word, value) {
			return same
		}
	}
	return api.SameNone
}

// PrintSet is a cookie as a server sets it.
func PrintSet(c api.SetCookie) (string, api.Errno) {
	if err := check(c); err != api.OK {
		return "", err
	}
	pieces := []string{pair(api.Cookie{Name: c.Name, Value: c.Value})}
	add := func(there bool, piece string) {
		if there {
			pieces = append(pieces, piece)
		}
	}
	expires, _ := stamp.Print(c.Expires) // a moment, as check says, or 0, which is one too
	add(c.Path != "", "Path="+c.Path)
	add(c.Domain != "", "Domain="+c.Domain)
	add(c.HasMaxAge, "Max-Age="+octet.Digits(c.MaxAge))
	add(c.HasExpires, "Expires="+expires)
	add(c.Secure, "Secure")
	add(c.HttpOnly, "HttpOnly")
	add(c.SameSite != api.SameNone, "SameSite="+sameWords[c.SameSite])
	return strings.Join(pieces, between), api.OK
}

// check is what is wrong with a cookie that is to be set.
func check(c api.SetCookie) api.Errno {
	switch {
	case !isCookie(api.Cookie{Name: c.Name, Value: c.Value}):
		return api.ErrCookie
	case c.Path != "" && !isPath(c.Path),
		c.Domain != "" && !isDomain(c.Domain),
		!hasRightAge(c),
		!hasRightExpires(c),
		c.SameSite < 0 || c.SameSite >= len(sameWords):
		return api.ErrAttribute
	}
	return api.OK
}

func hasRightAge(c api.SetCookie) bool {
	if !c.HasMaxAge {
		return c.MaxAge == 0
	}
	return c.MaxAge >= 0 && c.MaxAge <= api.MaxAges
}

func hasRightExpires(c api.SetCookie) bool {
	if !c.HasExpires {
		return c.Expires == 0
	}
	return isMoment(c.Expires)
}

func isMoment(n int) bool {
	_, err := stamp.Split(n)
	return err == api.OK
}
