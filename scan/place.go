package scan

import (
	"strings"

	"muslin/api"
	"muslin/cssscan"
	"muslin/faults"
	"muslin/jsscan"
	"muslin/marks"
	"muslin/number"
	"muslin/tables"
	"muslin/urlscan"
)

// The kinds of elements, as package tables numbers them.
const (
	_ = iota
	refsElement
	styleElement
	scriptElement
	shutElement // no action may stand in it
)

// The kinds of attributes, as package tables numbers them; an element's text is of one of them, too.
const (
	words = iota
	address
	handler
	styling
)

// The parts at which a URL, a script and a style go wrong, as their packages number them.
const (
	behindAction  = 4 // at a URL's beginning
	refusedScheme = 5
	stuckScript   = 15
	stuckStyle    = 9
)

// place is where in HTML a text stands.
type place struct {
	api.State
}

// enter goes on to a state of that kind: of the same tag and attribute, if it is one that has these.
func (p *place) enter(kind int) {
	next := api.State{Kind: kind}
	if number.Within(kind, before, slash) {
		next.Elem = p.Elem
	}
	if number.Within(kind, afterName, unquoted) {
		next.Attr = p.Attr
	}
	p.State = next
}

// enterOf goes on to a state of that kind, of that element.
func (p *place) enterOf(kind int, elem string) {
	p.State = api.State{Kind: kind, Elem: elem}
}

// leaveTag goes on behind a tag's end.
func (p *place) leaveTag() {
	p.demandOpen()
	switch tables.Element(p.Elem) { // of an end tag's Elem it is none of these
	case refsElement:
		p.enterOf(refsText, p.Elem)
	case styleElement:
		p.enterOf(style, p.Elem)
	case scriptElement:
		p.enterOf(script, p.Elem)
	default:
		p.enter(data)
	}
}

// demandOpen refuses a start tag of an element in which no action may stand.
func (p *place) demandOpen() {
	faults.Demand(tables.Element(p.Elem) != shutElement, api.ErrContext)
}

func (p *place) inEndTag() bool {
	return strings.HasPrefix(p.Elem, endTagSign)
}

// rules answers the kind of attribute by whose rules the text here goes.
func (p *place) rules() int {
	switch p.Kind {
	case style:
		return styling
	case script:
		return handler
	}
	return marks.Kind(p.State)
}

// follow goes through said, which stands here, by the rules that hold here.
func (p *place) follow(said string) {
	rules := p.rules()
	for i := range len(said) {
		p.followOctet(rules, said[i])
		p.demandFollowed(rules)
	}
}

func (p *place) followOctet(rules int, c byte) {
	switch rules {
	case address:
		part := p.Part
		p.Part, p.Word = urlscan.Step(p.Part, p.Word, c)
		faults.Demand(part != behindAction || p.Part != refusedScheme, api.ErrURL) // what the action tells might be that scheme
	case handler:
		p.Part, p.Word = jsscan.Step(p.Part, p.Word, c)
	case styling:
		p.Part, p.Word = cssscan.Step(p.Part, p.Word, c)
	}
}

// demandFollowed refuses a part from which nothing can be followed.
func (p *place) demandFollowed(rules int) {
	faults.Demand(rules != handler || p.Part != stuckScript, api.ErrScript)
	faults.Demand(rules != styling || p.Part != stuckStyle, api.ErrStyle)
}

// copied answers the state in memory of its own.
func (p *place) copied() api.State {
	s := p.State
	for _, text := range []*string{&s.Elem, &s.Attr, &s.Pend, &s.Ref, &s.Word} {
		*text = strings.Clone(*text)
	}
	return s
}
