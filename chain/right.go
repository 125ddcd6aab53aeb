package chain

import (
	"slices"
	"strings"

	"turnpike/api"
	"turnpike/field"
	"turnpike/octet"
	"turnpike/target"
)

const (
	anyOrigin = "*"
	noPort    = -1
)

// part is parts of an element, each a bit.
type part int

const (
	partName part = 1 << iota
	partValue
	partList
	partN
)

// partsOf is the parts of an element that are not zero or empty.
func partsOf(m api.Middle) part {
	return onlyIf(m.Name != "", partName) | onlyIf(m.Value != "", partValue) |
		onlyIf(len(m.List) > 0, partList) | onlyIf(m.N != 0, partN)
}

func onlyIf(there bool, p part) part {
	if !there {
		return 0
	}
	return p
}

func isAdd(m api.Middle) bool { return octet.IsToken(m.Name) && field.IsValue(m.Value) }

func isDrop(m api.Middle) bool { return octet.IsToken(m.Name) }

func isMethods(m api.Middle) bool { return areAll(m.List, octet.IsToken) && noneTwice(m.List) }

func isBody(m api.Middle) bool { return m.N >= 0 }

func isStrip(m api.Middle) bool {
	normal, err := target.Normal(m.Value)
	return err == api.OK && normal == m.Value && !strings.HasSuffix(m.Value, slash)
}

func isBasic(m api.Middle) bool { return octet.IsField(m.Name) && areAll(m.List, isCredentials) }

func isOrigin(m api.Middle) bool {
	return (isForAll(m.List) || areAll(m.List, isOneOrigin)) && isJoined(m.Value) && m.N >= 0
}

func isCache(m api.Middle) bool { return m.Value != "" && field.IsValue(m.Value) }

func isHost(m api.Middle) bool { return areAll(m.List, isPlainHost) }

// areAll is whether there are texts, and all are of a kind.
func areAll(l []string, are func(string) bool) bool {
	return len(l) > 0 && !slices.ContainsFunc(l, func(s string) bool { return !are(s) })
}

func noneTwice(l []string) bool {
	met := map[string]struct{}{}
	for _, s := range l {
		met[s] = struct{}{}
	}
	return len(met) == len(l)
}

// isCredentials is whether a text is a user's name, a colon and a password.
func isCredentials(s string) bool {
	return strings.Index(s, ":") > 0 && octet.IsField(s) && !strings.Contains(s, "\t")
}

// isForAll is whether a list of origins says that any is let in.
func isForAll(l []string) bool { return len(l) == 1 && l[0] == anyOrigin }

func isOneOrigin(s string) bool {
	return s != "" && s != anyOrigin && octet.IsField(s) && !strings.ContainsAny(s, " \t,")
}

// isJoined is whether a text is tokens, or nothing, just as they are joined.
func isJoined(s string) bool {
	tokens, err := octet.Tokens(s)
	return err == api.OK && octet.Join(tokens) == s
}

// isPlainHost is whether a text is an authority that tells no port, in small letters.
func isPlainHost(s string) bool {
	_, port, err := target.Authority(s)
	return err == api.OK && port == noPort && octet.Lower(s) == s
}
