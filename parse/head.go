package parse

import (
	"slices"

	"turnpike/api"
	"turnpike/field"
	"turnpike/octet"
	"turnpike/target"
)

const (
	badRequest      = 400
	tooLarge        = 413
	targetTooLong   = 414
	expectFailed    = 417
	fieldsTooLarge  = 431
	notImplemented  = 501
	versionNotKnown = 505

	nameExpect   = "Expect"
	expectToGoOn = "100-continue"

	lineEnd = "\r\n"

	versionForm = "HTTP/0.0" + lineEnd // a 0 stands for any digit
	majorAt     = 5
	minorAt     = 7
)

// ahead takes a byte ahead of the method, or its first one.
func (p *Parser) ahead(c byte) step {
	if c == '\r' {
		return p.aheadReturn
	}
	p.state = stateLine
	p.next = p.inMethod
	return p.next(c)
}

// aheadReturn takes the last byte of a line end ahead of the method.
func (p *Parser) aheadReturn(c byte) step {
	if c != '\n' {
		p.refuse(badRequest, api.ErrLine)
	}
	return p.ahead
}

// inMethod takes a byte of the method, or the space behind it.
func (p *Parser) inMethod(c byte) step {
	switch {
	case c == ' ' && len(p.text) > 0:
		p.request.Method = p.word()
		return p.inTarget
	case !octet.IsToken(string([]byte{c})):
		p.refuse(badRequest, api.ErrMethod)
	case len(p.text) == mostMethod:
		p.refuse(notImplemented, api.ErrMethod)
	}
	return p.stay(c)
}

// inTarget takes a byte of the target, or the space behind it.
func (p *Parser) inTarget(c byte) step {
	switch {
	case c == ' ' && len(p.text) > 0:
		p.request.Target = p.word()
		return p.inVersion
	case !isTargetByte(c):
		p.refuse(badRequest, api.ErrLine)
	case len(p.text) == p.limits.Target:
		p.refuse(targetTooLong, api.ErrLong)
	}
	return p.stay(c)
}

// inVersion takes a byte of the version, or of the line's end behind it.
func (p *Parser) inVersion(c byte) step {
	if form := versionForm[len(p.text)]; c != form && !(form == '0' && isDigit(c)) {
		p.refuse(badRequest, api.ErrLine)
	}
	if c == '\n' {
		p.endLine(p.word())
		return p.inFields
	}
	return p.stay(c)
}

func isDigit(c byte) bool { return '0' <= c && c <= '9' }

// endLine reads what the request's line says: it has just ended.
func (p *Parser) endLine(version string) {
	r := &p.request
	r.Major, r.Minor = int(version[majorAt]-'0'), int(version[minorAt]-'0')
	if !isVersion(r.Major, r.Minor) {
		p.refuse(versionNotKnown, api.ErrVersion)
	}
	if _, _, err := target.Parse(r.Method, r.Target); err != api.OK {
		p.refuse(badRequest, err)
	}
	p.lines = p.used
	p.state = stateFields
}

// inFields takes a byte of a line of fields, or the first one of its end.
func (p *Parser) inFields(c byte) step {
	p.mindHead()
	switch c {
	case '\r':
		return p.behindReturn
	case '\n':
		p.refuse(badRequest, api.ErrLine)
	}
	return p.stay(c)
}

// behindReturn takes the last byte of the end of a line of fields, or of the empty line.
func (p *Parser) behindReturn(c byte) step {
	p.mindHead()
	if c != '\n' {
		p.refuse(badRequest, api.ErrLine)
	}
	if line := p.word(); line != "" {
		p.keepField(line)
		return p.inFields
	}
	p.endHead()
	return nil
}

func (p *Parser) mindHead() {
	if p.used-p.lines > p.limits.Head {
		p.refuse(fieldsTooLarge, api.ErrFields)
	}
}

func (p *Parser) keepField(line string) {
	if len(p.request.Fields) == p.limits.Fields {
		p.refuse(fieldsTooLarge, api.ErrFields)
	}
	f, place, err := field.ParseLine(line)
	if err != api.OK {
		begin := p.used - len(lineEnd) - len(line)
		p.refuseAt(badRequest, err, begin+place)
	}
	p.request.Fields = append(p.request.Fields, f)
}

// endHead reads what the fields say together: the empty line has just ended.
func (p *Parser) endHead() {
	framing, err := field.Framing(p.request.Fields, isOld(p.request))
	switch {
	case err == api.ErrCodings:
		p.refuse(notImplemented, err)
	case err != api.OK:
		p.refuse(badRequest, err)
	}
	p.checkHost()
	p.checkExpect()
	if framing.Length > p.limits.Body {
		p.refuse(tooLarge, api.ErrBody)
	}
	p.head = p.used
	p.beginBody(framing)
}

func (p *Parser) checkHost() {
	host, _, err := field.Host(p.request.Fields, isOld(p.request))
	if err == api.OK && host != "" {
		_, _, err = target.Authority(host)
	}
	if err != api.OK {
		p.refuse(badRequest, err)
	}
}

func (p *Parser) checkExpect() {
	if _, expects := field.Find(p.request.Fields, nameExpect); !expects {
		return
	}
	tokens, err := field.Tokens(p.request.Fields, nameExpect)
	if err != api.OK || !slices.Equal(tokens, []string{expectToGoOn}) {
		p.refuse(expectFailed, api.ErrExpect)
	}
}

// stay keeps a byte of what has not ended, and is the step that took it: that one is not made anew.
func (p *Parser) stay(c byte) step {
	p.text = append(p.text, c)
	return p.next
}

// word is what has just ended; the next word begins.
func (p *Parser) word() string {
	s := string(p.text)
	p.text = p.text[:0]
	return s
}
