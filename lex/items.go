package lex

import (
	"strings"

	"muslin/api"
	"muslin/faults"
	"muslin/octets"
)

const (
	opening      = "{{"
	closing      = "}}"
	trim         = '-' // behind opening or ahead of closing, with a blank on its other side
	remarkBegins = "/*"
	remarkEnds   = "*/"
)

// cutter cuts a template into its pieces, from the left.
type cutter struct {
	template string
	at       int    // how far it has come; at an action, where that begins
	text     string // what it has seen of text behind the last action
	textAt   int
	items    []Item
}

func (c *cutter) cut() []Item {
	c.seeText(false)
	for c.at < len(c.template) {
		a := within(c.rest()[len(opening):])
		if a.trimsAhead() {
			c.text = c.text[:len(c.text)-blanksBehind(c.text)]
		}
		if !a.remark() {
			c.putText()
			c.items = append(c.items, Item{Kind: actionPiece, Text: a.text(), At: c.at})
		}
		c.at += len(opening) + len(a) + len(closing)
		c.seeText(a.trimsBehind())
	}
	c.putText()
	return c.items
}

func (c *cutter) rest() string {
	return c.template[c.at:]
}

// seeText goes as far as the next action, or the end.
func (c *cutter) seeText(trimmed bool) {
	text, _, _ := strings.Cut(c.rest(), opening)
	ahead := 0
	if trimmed {
		ahead = blanksAhead(text)
	}
	if c.text == "" {
		c.textAt = c.at + ahead
	}
	c.text += text[ahead:]
	c.at += len(text)
}

func (c *cutter) putText() {
	if c.text != "" {
		text := strings.Clone(c.text) // it may be a piece of the template still
		c.items = append(c.items, Item{Kind: textPiece, Text: text, At: c.textAt})
	}
	c.text = ""
}

// action is all that stands between the opening and the closing of an action or a remark.
type action string

// within answers the action whose opening stands right ahead of s.
func within(s string) action {
	at := 0
	if action(s).remark() {
		at = strings.Index(s, remarkBegins) + len(remarkBegins)
		size := strings.Index(s[at:], remarkEnds)
		faults.Demand(size >= 0, api.ErrShort)
		at += size + len(remarkEnds)
	}
	return action(s[:closed(s, at)])
}

// closed answers where the first closing of s from there on stands that no quotes hide.
func closed(s string, at int) int {
	hidden := false
	for {
		faults.Demand(at < len(s), api.ErrShort)
		switch {
		case hidden && s[at] == escape:
			at++ // the octet behind it is one with it
		case s[at] == quote:
			hidden = !hidden
		case !hidden && strings.HasPrefix(s[at:], closing):
			return at
		}
		at++
	}
}

func (a action) trimsAhead() bool {
	return len(a) > 1 && a[0] == trim && octets.Blank(a[1])
}

func (a action) trimsBehind() bool {
	last := len(a) - 1
	return last > 0 && a[last] == trim && octets.Blank(a[last-1])
}

// remark tells whether it begins as a remark does, which it may with or without a trim that has no blank behind it.
func (a action) remark() bool {
	s := strings.TrimPrefix(string(a), string(trim))
	return strings.HasPrefix(s[blanksAhead(s):], remarkBegins)
}

// text answers what is within, without its trims and the blanks at its ends.
func (a action) text() string {
	from, to := 0, len(a)
	if a.trimsAhead() {
		from++
	}
	if a.trimsBehind() {
		to--
	}
	return octets.Trim(string(a[from:to]))
}

func blanksAhead(s string) int {
	n := 0
	for n < len(s) && octets.Blank(s[n]) {
		n++
	}
	return n
}

func blanksBehind(s string) int {
	n := 0
	for n < len(s) && octets.Blank(s[len(s)-1-n]) {
		n++
	}
	return n
}
