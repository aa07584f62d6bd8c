package tokens

import (
	"strings"

	"muslin/api"
	"muslin/faults"
	"muslin/octets"
	"muslin/refs"
	"muslin/tables"
)

// reader reads the text s, of which at octets have been read, and tells its tokens.
type reader struct {
	s    string
	at   int
	told []api.Token
}

// all reads the whole text, from data on.
func (r *reader) all() {
	from := 0 // where the text on its way begins
	for r.at < len(r.s) {
		read := r.begun()
		if read == nil {
			r.at++
			continue
		}
		r.tellText(refs.Decode(r.since(from)))
		read()
		from = r.at
	}
	r.tellText(refs.Decode(r.since(from)))
}

// begun answers what reads that which begins here and is no text; nil where a text goes on.
func (r *reader) begun() func() {
	rest := r.s[r.at:]
	begins := func(sign string) bool { return strings.HasPrefix(rest, sign) }
	switch {
	case opens(rest, tagBegins):
		return r.startTag
	case opens(rest, endTagBegins):
		return r.endTag
	case begins(commentBegins):
		return r.comment
	case begins(markupBegins), begins(bogusBegins), begins(endTagBegins) && rest != endTagBegins:
		return r.bogus
	}
	return nil
}

// opens tells whether s begins with sign and a letter.
func opens(s string, sign string) bool {
	name, ok := strings.CutPrefix(s, sign)
	return ok && name != "" && octets.Letter(name[0])
}

func (r *reader) startTag() {
	r.at += len(tagBegins)
	t, ended := r.tag()
	if !ended {
		return
	}
	t.Kind = startTag
	r.tell(t)
	if hasRawText(t.Name) {
		r.rawText(t.Name)
	}
}

func (r *reader) endTag() {
	r.at += len(endTagBegins)
	t, ended := r.tag()
	if ended {
		r.tell(api.Token{Kind: endTag, Name: t.Name})
	}
}

// tag reads a tag from its name on, and tells whether it ends.
func (r *reader) tag() (api.Token, bool) {
	var t api.Token
	from := r.at // where the name or the value on its way begins
	quote := ""
	inQuotes := func(c byte) bool { return c != quote[0] }
	putValue := func() { t.Attrs[len(t.Attrs)-1].Value = refs.Decode(r.since(from)) }
tagName:
	if r.passes(inTagName) {
		goto tagName
	}
	t.Name = lower(r.since(from))
afterValue: // whatever stands here is asked there
before:
	switch {
	case r.passes(octets.Blank):
		goto before
	case r.takes(closing):
		goto slash
	case r.takes(tagEnds):
		return t, true
	case r.at == len(r.s):
		return api.Token{}, false
	}
	from = r.at
	r.at++ // whatever stands here begins a name, a = too
attributeName:
	if r.passes(inAttributeName) {
		goto attributeName
	}
	t.Attrs = append(t.Attrs, api.Attr{Name: lower(r.since(from))})
afterName:
	switch {
	case r.passes(octets.Blank):
		goto afterName
	case !r.takes(equals):
		goto before
	}
beforeValue:
	if r.passes(octets.Blank) {
		goto beforeValue
	}
	from = r.at
	if r.takes(doubleQuote) || r.takes(singleQuote) {
		quote = r.since(from)
		from = r.at
		goto value
	}
unquoted:
	if r.passes(inUnquoted) {
		goto unquoted
	}
	putValue()
	goto before
value:
	if r.passes(inQuotes) {
		goto value
	}
	putValue()
	r.takes(quote)
	goto afterValue
slash:
	t.Closed = r.takes(tagEnds)
	if !t.Closed {
		goto before
	}
	return t, true
}

// comment reads a comment, of which what has come is told, too, if it does not end.
func (r *reader) comment() {
	said, rest, _ := strings.Cut(r.s[r.at+len(commentBegins):], commentEnds)
	r.at = len(r.s) - len(rest)
	r.tell(api.Token{Kind: comment, Text: strings.Clone(said)})
}

// bogus reads what begins as markup and is none, of which nothing is told.
func (r *reader) bogus() {
	_, rest, _ := strings.Cut(r.s[r.at:], tagEnds)
	r.at = len(r.s) - len(rest)
}

// rawText reads the text of the element name, up to its end tag, if it has one.
func (r *reader) rawText(name string) {
	from, sign := r.at, endTagBegins+name
	for r.at < len(r.s) && !ends(r.s[r.at:], sign) {
		r.at++
	}
	said := r.since(from)
	if tables.Element(name) == refsText {
		r.tellText(refs.Decode(said))
	} else {
		r.tellText(strings.Clone(said))
	}
}

// ends tells whether s begins with sign, small letters and great ones being one, and with what may stand behind an end tag's name.
func ends(s string, sign string) bool {
	return octets.Starts(s, sign) && len(s) > len(sign) && !inTagName(s[len(sign)])
}

func (r *reader) tellText(s string) {
	if s != "" {
		r.tell(api.Token{Kind: text, Text: s})
	}
}

func (r *reader) tell(t api.Token) {
	faults.Demand(len(r.told) < api.MaxTags, api.ErrCount)
	r.told = append(r.told, t)
}

// since answers what has been read from the place from on.
func (r *reader) since(from int) string {
	return r.s[from:r.at]
}

// passes reads the next octet, if there is one and it is wanted.
func (r *reader) passes(wanted func(c byte) bool) bool {
	passed := r.at < len(r.s) && wanted(r.s[r.at])
	if passed {
		r.at++
	}
	return passed
}

// takes reads sign, if it stands here.
func (r *reader) takes(sign string) bool {
	taken := strings.HasPrefix(r.s[r.at:], sign)
	if taken {
		r.at += len(sign)
	}
	return taken
}

func inTagName(c byte) bool {
	return !octets.Blank(c) && !isOneOf(c, closing+tagEnds)
}

func inAttributeName(c byte) bool {
	return inTagName(c) && !isOneOf(c, equals)
}

func inUnquoted(c byte) bool {
	return !octets.Blank(c) && !isOneOf(c, tagEnds)
}

func isOneOf(c byte, signs string) bool {
	return strings.IndexByte(signs, c) >= 0
}

// lower answers s, its letters small, in memory of its own, where octets.Lower shares single octets.
func lower(s string) string {
	return strings.Clone(octets.Lower(s))
}
