package lex

import (
	"strings"

	"muslin/api"
	"muslin/faults"
	"muslin/number"
	"muslin/octets"
)

const (
	dot      = '.'
	dollar   = '$'
	minus    = '-'
	newline  = '\n'
	pipe     = "|"
	declares = ":="
)

// reader reads an action's words, from the left.
type reader struct {
	action string
	base   int // the place of its first octet
	at     int // how far it has read
	place  int // of the word that is read, or of what may not stand within it
}

func (r *reader) words() []Word {
	var out []Word
	for r.passBlanks(); r.at < len(r.action); r.passBlanks() {
		r.place = r.at
		kind, text := r.word()
		out = append(out, Word{Kind: kind, Text: text, At: r.base + r.place})
	}
	return out
}

// word goes over a word, and answers its kind and text.
func (r *reader) word() (int, string) {
	switch c := r.next(); {
	case beginsName(c):
		r.passName()
		return aName, r.passed()
	case c == dot:
		r.passPath()
		return aPath, r.passed()
	case c == dollar:
		r.passVariable()
		return aVariable, r.passed()
	case c == minus, digit(c):
		r.passNumber()
		return aNumber, r.passed()
	case c == quote:
		return aText, r.passText()
	}
	r.passSign()
	return aSign, r.passed()
}

// next answers the octet that is read next, behind the last one 0, which is in no word but a text.
func (r *reader) next() byte {
	if r.at == len(r.action) {
		return 0
	}
	return r.action[r.at]
}

// passed answers the octets of the word that has been gone over.
func (r *reader) passed() string {
	return strings.Clone(r.action[r.place:r.at])
}

func (r *reader) passBlanks() {
	r.at += blanksAhead(r.action[r.at:])
}

// passName goes over a name, and tells whether one stands there.
func (r *reader) passName() bool {
	if !beginsName(r.next()) {
		return false
	}
	from := r.at
	for inName(r.next()) {
		r.at++
	}
	faults.Demand(r.at-from <= api.MaxName, api.ErrLong)
	return true
}

func (r *reader) passPath() {
	r.at++
	if r.passName() {
		r.passFields()
	}
}

func (r *reader) passVariable() {
	r.at++
	r.passName()
	r.passFields()
}

// passFields goes over each dot and its name, but not over a dot as the last octet, which is a path of its own.
func (r *reader) passFields() {
	for r.next() == dot && r.at+1 < len(r.action) {
		r.at++
		faults.Demand(r.passName(), api.ErrSyntax)
	}
}

func (r *reader) passNumber() {
	r.at++
	for digit(r.next()) {
		r.at++
	}
	_, err := number.Parse(r.action[r.place:r.at])
	faults.Demand(err != api.ErrShort, api.ErrSyntax) // a minus alone
	faults.Demand(err == api.OK, err)
}

// passText goes over a text, and answers what it stands for.
func (r *reader) passText() string {
	var out strings.Builder
	for r.at++; r.next() != quote; r.at++ {
		faults.Demand(r.at < len(r.action), api.ErrSyntax)
		out.WriteByte(r.stood())
	}
	r.at++
	faults.Demand(out.Len() <= api.MaxValue, api.ErrLong)
	return out.String()
}

// stood answers what the next octet of a text stands for, or, of an escape, that and the octet behind it; it goes on to the last of them.
func (r *reader) stood() byte {
	place, c := r.at, r.next()
	if c != escape {
		r.demand(c != newline, place)
		return c
	}
	r.at++
	short := strings.IndexByte(shortNames, r.next())
	r.demand(short >= 0, place)
	return shortTexts[short]
}

func (r *reader) passSign() {
	rest := r.action[r.at:]
	for _, sign := range []string{pipe, declares} {
		if strings.HasPrefix(rest, sign) {
			r.at += len(sign)
			return
		}
	}
	faults.Demand(false, api.ErrSyntax)
}

// demand faults with that place, which is not the word's, unless ok.
func (r *reader) demand(ok bool, place int) {
	if !ok {
		r.place = place
	}
	faults.Demand(ok, api.ErrSyntax)
}

func beginsName(c byte) bool {
	return octets.Letter(c) || c == '_'
}

func inName(c byte) bool {
	return beginsName(c) || digit(c)
}

func digit(c byte) bool {
	return '0' <= c && c <= '9'
}
