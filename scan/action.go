package scan

import (
	"muslin/cssscan"
	"muslin/jsscan"
	"muslin/urlscan"
)

// The kinds of actions. Those of a URL stand in the order in which package urlscan numbers them, those of a script in that of package jsscan.
const (
	none = iota // may stand there
	inText
	inRefsText
	inWords
	inURL
	_
	_
	inScript
	_
	inHandler
	_
	inStyle
	inStyling
)

// passAction goes behind an action, and answers its kind.
func (p *place) passAction() int {
	if p.Pend != "" || p.Ref != "" {
		return none
	}
	switch p.Kind {
	case data:
		return inText
	case refsText:
		return inRefsText
	case value:
		return p.passInValue()
	case style:
		return p.passInStyle(inStyle)
	case script:
		return p.passInScript(inScript)
	}
	return none
}

func (p *place) passInValue() int {
	if p.inEndTag() {
		return none
	}
	switch p.rules() {
	case words:
		return inWords
	case address:
		return p.passInURL()
	case handler:
		return p.passInScript(inHandler)
	case styling:
		return p.passInStyle(inStyling)
	}
	return none
}

func (p *place) passInURL() int {
	part, kind := urlscan.Hole(p.Part)
	p.Part, p.Word = part, ""
	return counted(inURL, kind)
}

// passInScript answers a kind from first on.
func (p *place) passInScript(first int) int {
	part, kind := jsscan.Hole(p.Part, p.Word)
	p.Part, p.Word = part, ""
	return counted(first, kind)
}

// passInStyle answers kind, if an action may stand there.
func (p *place) passInStyle(kind int) int {
	part, word, ok := cssscan.Hole(p.Part)
	p.Part, p.Word = part, word
	if !ok {
		return none
	}
	return kind
}

// counted answers the n-th of the kinds from first on, none of 0.
func counted(first int, n int) int {
	if n == 0 {
		return none
	}
	return first + n - 1
}
