package parse

import (
	"slices"

	"turnpike/api"
	"turnpike/chunk"
	"turnpike/field"
)

// How far a parser has come, numbered as the states of package api are.
const (
	stateStart = iota
	stateLine
	stateFields
	stateBody
	stateDone
	stateFault
)

// step takes a byte of a head, and is the step behind it; none, behind the head.
type step func(c byte) step

// Parser reads a request in pieces.
type Parser struct {
	limits  api.Limits
	state   int
	used    int
	next    step           // within a head: each byte is handed to it
	body    func(s string) // within a body: pieces are handed to it, since bytes of a body need not be told apart; it takes as many as belong to it
	text    []byte         // what is there of a word, a line, or a body with a length, that has not ended
	lines   int            // how many bytes stand ahead of the lines of fields
	head    int            // how many bytes stand ahead of the body
	left    int            // bytes that are still to come of a body with a length
	chunks  *chunk.Decoder
	request api.Request
	fault   api.Fault
}

// refusal is what a step gives up with.
type refusal api.Fault

// New is a parser that has taken nothing.
func New(l api.Limits) (*Parser, api.Errno) {
	if err := Check(l); err != api.OK {
		return nil, err
	}
	p := new(Parser)
	p.begin(l)
	return p, api.OK
}

func (p *Parser) begin(l api.Limits) {
	*p = Parser{limits: l}
	p.next = p.ahead
}

// Feed takes bytes: how many.
func (p *Parser) Feed(s string) (n int) {
	if p == nil {
		return 0
	}
	before := p.used
	defer func() {
		p.settle(recover())
		n = p.used - before
	}()
	p.take(s)
	return n
}

func (p *Parser) take(s string) {
	for s != "" && p.next != nil {
		p.used++
		p.next = p.next(s[0])
		s = s[1:]
	}
	if s != "" && p.body != nil {
		p.body(s)
	}
}

// refuse gives up at the byte that was taken last.
func (p *Parser) refuse(status int, err api.Errno) { p.refuseAt(status, err, p.used-1) }

func (p *Parser) refuseAt(status int, err api.Errno, at int) {
	panic(refusal{Status: status, Err: err, At: at})
}

// settle keeps the fault that a step gave up with, and of the request nothing: nobody may ask for it any more. What else a panic tells is not this layer's to hide.
func (p *Parser) settle(given any) {
	if given == nil {
		return
	}
	f, ours := given.(refusal)
	if !ours {
		panic(given)
	}
	*p = Parser{limits: p.limits, state: stateFault, used: p.used, fault: api.Fault(f)}
}

// State is how far it has come.
func (p *Parser) State() int {
	if p == nil {
		return stateStart
	}
	return p.state
}

// Used is how many bytes were taken.
func (p *Parser) Used() int {
	if p == nil {
		return 0
	}
	return p.used
}

// Head is the request without its body, as soon as that is known.
func (p *Parser) Head() (api.Request, bool) {
	if p == nil || p.state != stateBody && p.state != stateDone {
		return api.Request{}, false
	}
	r := p.request
	r.Fields = slices.Clone(r.Fields)
	r.Body, r.Trailers = "", nil
	return r, true
}

// Waits tells whether somebody may wait for a word to go on.
func (p *Parser) Waits() bool {
	if p == nil || p.state != stateBody || p.used > p.head || isOld(p.request) {
		return false
	}
	_, expects := field.Find(p.request.Fields, nameExpect)
	return expects
}

// Request is the request, when all of it was taken.
func (p *Parser) Request() (api.Request, bool) {
	if p == nil || p.state != stateDone {
		return api.Request{}, false
	}
	r := p.request
	r.Fields = slices.Clone(r.Fields)
	r.Trailers = slices.Clone(r.Trailers)
	return r, true
}

// Fault is what is wrong.
func (p *Parser) Fault() (api.Fault, bool) {
	if p == nil || p.state != stateFault {
		return api.Fault{}, false
	}
	return p.fault, true
}

// Next begins the next request.
func (p *Parser) Next() api.Errno {
	if p == nil || p.state != stateDone && !p.starts() {
		return api.ErrState
	}
	p.begin(p.limits)
	return api.OK
}

// starts tells whether nothing but line ends was taken. (A parser that New did not make has no step, and does not start.)
func (p *Parser) starts() bool { return p.state == stateStart && p.next != nil }
