package handle

import (
	"turnpike/api"
	"turnpike/cookie"
	"turnpike/field"
	"turnpike/octet"
	"turnpike/shelf"
)

const mostCounted = 999999999

func answerCount(h api.Handler, a api.Asked, s *shelf.Shelf) api.Response {
	digits := octet.Digits(counted(a.Request.Fields, h.Name) + 1)
	set, _ := cookie.PrintSet(api.SetCookie{Name: h.Name, Value: digits, Path: slash})
	return texted(digits+lineFeed, api.Field{Name: "Set-Cookie", Value: set})
}

// counted is what the first cookie of a name has counted so far.
func counted(l []api.Field, name string) int {
	for _, value := range field.All(l, "Cookie") {
		cookies, _ := cookie.Parse(value)
		for _, c := range cookies {
			if c.Name == name {
				n, _ := octet.Decimal(c.Value, mostCounted)
				return n
			}
		}
	}
	return 0
}
