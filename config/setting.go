package config

import (
	"turnpike/api"
	"turnpike/octet"
	"turnpike/parse"
	"turnpike/stamp"
)

// The settings, by their numbers.
const (
	settingName = 1 + iota
	settingDate
	settingTarget
	settingHead
	settingFields
	settingBody
	settingIn
	settingOut
	settingQueue
	settingConns
	settingIdle
	settingLinger
	settingRequests
	settingFrame
	settingSlash
)

const mostName = 128

// setting is what there is to a setting: how it is told, whether it may be as it is, and whether it is written then.
type setting struct {
	clause[api.Config]
	may  func(c api.Config) bool
	told func(c api.Config) bool
}

func settings() []setting {
	return []setting{
		settingName:     {clause[api.Config]{"name", func(c *api.Config) []part { return []part{text(&c.Name)} }}, isName, isNamed},
		settingDate:     {clause[api.Config]{"date", func(c *api.Config) []part { return []part{number(&c.Date)} }}, isDate, isDated},
		settingTarget:   limit("target", func(l *api.Limits) *int { return &l.Target }),
		settingHead:     limit("head", func(l *api.Limits) *int { return &l.Head }),
		settingFields:   limit("fields", func(l *api.Limits) *int { return &l.Fields }),
		settingBody:     limit("body", func(l *api.Limits) *int { return &l.Body }),
		settingIn:       size("in", 1, api.MaxRing, func(c *api.Config) *int { return &c.In }),
		settingOut:      size("out", 1, api.MaxRing, func(c *api.Config) *int { return &c.Out }),
		settingQueue:    size("queue", 1, api.MaxQueue, func(c *api.Config) *int { return &c.Queue }),
		settingConns:    size("conns", 1, api.MaxConns, func(c *api.Config) *int { return &c.Conns }),
		settingIdle:     size("idle", 0, api.MaxCount, func(c *api.Config) *int { return &c.Idle }),
		settingLinger:   size("linger", 0, api.MaxCount, func(c *api.Config) *int { return &c.Linger }),
		settingRequests: size("requests", 0, api.MaxCount, func(c *api.Config) *int { return &c.Requests }),
		settingFrame:    size("frame", 0, api.MaxMessage, func(c *api.Config) *int { return &c.Frame }),
		settingSlash:    {clause[api.Config]{"slash", func(c *api.Config) []part { return []part{so(&c.Slash)} }}, always, isSlash},
	}
}

// counted is how a setting is told that is a number.
func counted(name word, of func(c *api.Config) *int) clause[api.Config] {
	return clause[api.Config]{name, func(c *api.Config) []part { return []part{number(of(c))} }}
}

// size is a setting that is a number between two others.
func size(name word, least, most int, of func(c *api.Config) *int) setting {
	may := func(c api.Config) bool { return least <= *of(&c) && *of(&c) <= most }
	return setting{counted(name, of), may, always}
}

// limit is a setting that is one of the limits of requests. It is asked about alone, among others that are right.
func limit(name word, of func(l *api.Limits) *int) setting {
	may := func(c api.Config) bool {
		l := parse.Usual()
		*of(&l) = *of(&c.Limits)
		return parse.Check(l) == api.OK
	}
	return setting{counted(name, func(c *api.Config) *int { return of(&c.Limits) }), may, always}
}

func always(api.Config) bool { return true }

func isName(c api.Config) bool {
	return octet.IsField(c.Name) && octet.Trim(c.Name) == c.Name && len(c.Name) <= mostName
}

func isNamed(c api.Config) bool { return c.Name != "" }

// isDate tells whether a date is a moment; the number by which there is none is one as well.
func isDate(c api.Config) bool {
	_, err := stamp.Split(c.Date)
	return err == api.OK
}

func isDated(c api.Config) bool { return c.Date != none }

func isSlash(c api.Config) bool { return c.Slash }
