package scan

import (
	"strings"

	"muslin/api"
	"muslin/faults"
	"muslin/octets"
	"muslin/refs"
)

// walker goes from place to place, octet by octet.
type walker struct {
	place
	octet byte // the one that is asked
}

// ask goes to where the octet leads. It may be asked anew on the way there, but never in a state in which it was.
func (w *walker) ask() {
	switch w.Kind {
	case data:
		w.askData()
	case tagOpen:
		w.askTagOpen()
	case endOpen:
		w.askEndOpen()
	case startTagName, endTagName:
		w.askTagName()
	case before, afterValue, slash:
		w.askBefore()
	case attributeName:
		w.askAttributeName()
	case afterName:
		w.askAfterName()
	case beforeValue:
		w.askBeforeValue()
	case value:
		w.askValue()
	case unquoted:
		w.askUnquoted()
	case markup, markupDash:
		w.askMarkup()
	case bogus:
		w.askBogus()
	case comment:
		w.askComment()
	case refsText, style, script:
		w.askElement()
	}
}

// askIn asks the octet anew in a state of that kind.
func (w *walker) askIn(kind int) {
	w.enter(kind)
	w.ask()
}

// said answers the octet as a text.
func (w *walker) said() string {
	return string([]byte{w.octet})
}

func (w *walker) askData() {
	if !w.refers() && w.octet == '<' {
		w.enter(tagOpen)
	}
}

func (w *walker) askTagOpen() {
	switch {
	case octets.Letter(w.octet):
		w.enterOf(startTagName, "")
		w.ask()
	case w.octet == '/':
		w.enter(endOpen)
	case w.octet == '!':
		w.enter(markup)
	case w.octet == '?':
		w.enter(bogus)
	default:
		w.askIn(data)
	}
}

func (w *walker) askEndOpen() {
	switch {
	case octets.Letter(w.octet):
		w.enterOf(endTagName, endTagSign)
		w.ask()
	default: // a > ends at once what begins here
		w.askIn(bogus)
	}
}

func (w *walker) askTagName() {
	if w.leavesName(before) {
		return
	}
	most := api.MaxName
	if w.inEndTag() {
		most += len(endTagSign)
	}
	w.Elem = w.named(w.Elem, most)
}

// askBefore asks behind a value and behind a / , too: octets lead to the same from there, as no state tells whether a tag is closed.
func (w *walker) askBefore() {
	if w.leavesName(before) {
		return
	}
	w.enter(attributeName)
	w.Attr = w.named("", api.MaxName)
}

func (w *walker) askAttributeName() {
	switch {
	case w.octet == '=':
		w.enter(beforeValue)
	case !w.leavesName(afterName):
		w.Attr = w.named(w.Attr, api.MaxName)
	}
}

func (w *walker) askAfterName() {
	switch {
	case w.octet == '=':
		w.enter(beforeValue)
	case !w.leavesName(afterName):
		w.askIn(before)
	}
}

// leavesName tells whether the octet is none that stands in a name, and goes to where it leads: a blank to behindBlank.
func (w *walker) leavesName(behindBlank int) bool {
	switch {
	case octets.Blank(w.octet):
		w.enter(behindBlank)
	case w.octet == '/':
		w.enter(slash)
	case w.octet == '>':
		w.leaveTag()
	default:
		return false
	}
	return true
}

// named answers name with the octet put to it, small, and refuses one of more than most octets.
func (w *walker) named(name string, most int) string {
	faults.Demand(len(name) < most, api.ErrLong)
	return name + octets.Lower(w.said())
}

func (w *walker) askBeforeValue() {
	switch {
	case octets.Blank(w.octet):
	case w.octet == '"', w.octet == '\'':
		w.enter(value)
		w.Delim = w.octet
	case w.octet == '>':
		w.leaveTag()
	default:
		w.askIn(unquoted)
	}
}

func (w *walker) askValue() {
	switch {
	case w.refers():
	case w.octet == w.Delim:
		w.demandFollowed(w.rules())
		w.enter(afterValue)
	default:
		w.follow(w.said())
	}
}

func (w *walker) askUnquoted() {
	if w.octet == '>' {
		w.demandOpen() // the chapter names this error ahead of those of the value
	}
	switch {
	case w.refers():
	case octets.Blank(w.octet):
		w.demandFollowed(w.rules())
		w.enter(before)
	case w.octet == '>':
		w.demandFollowed(w.rules())
		w.leaveTag()
	default:
		w.follow(w.said())
	}
}

// refers tells whether the octet belongs to a reference. What was on its way and is on it no more, is followed.
func (w *walker) refers() bool {
	if w.Ref == "" && w.octet != '&' {
		return false
	}
	ref := w.Ref + w.said()
	if refs.Unfinished(ref) {
		w.Ref = ref
		return true
	}
	stands, size := refs.One(ref)
	ended := size == len(ref)
	if !ended {
		stands = w.Ref
	}
	w.Ref = ""
	w.follow(stands)
	return ended || w.refers() // behind what is none another may begin
}

func (w *walker) askMarkup() {
	switch {
	case w.octet != '-':
		w.askIn(bogus)
	case w.Kind == markup:
		w.enter(markupDash)
	default:
		w.enter(comment)
	}
}

func (w *walker) askBogus() {
	if w.octet == '>' {
		w.enter(data)
	}
}

func (w *walker) askComment() {
	switch {
	case w.octet == '>' && w.Pend == commentEnding:
		w.enter(data)
	case w.octet != '-':
		w.Pend = ""
	case w.Pend == "":
		w.Pend = commentEnding[:1]
	default: // of more than two the last two may end it
		w.Pend = commentEnding
	}
}

// askElement asks within an element that just its end tag ends.
func (w *walker) askElement() {
	pend, endTag := w.Pend+w.said(), endTagBegins+w.Elem
	faults.Demand(w.Kind != script || pend != remarkBegins, api.ErrScript)
	switch {
	case octets.Starts(endTag, pend), w.Kind == script && strings.HasPrefix(remarkBegins, pend):
		faults.Demand(len(pend) <= len(endTagBegins)+api.MaxName, api.ErrLong)
		w.Pend, w.Ref = pend, "" // no reference goes on with what waits
	case octets.Lower(w.Pend) == octets.Lower(endTag) && w.endsTagName():
		w.enterOf(endTagName, endTagSign+w.Elem)
		w.ask()
	case w.Pend != "":
		mere := w.Pend
		w.Pend = ""
		w.follow(mere)
		w.ask()
	case w.Kind == refsText:
		w.refers()
	default:
		w.follow(w.said())
	}
}

func (w *walker) endsTagName() bool {
	return octets.Blank(w.octet) || w.octet == '/' || w.octet == '>'
}
