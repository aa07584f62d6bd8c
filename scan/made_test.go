package scan

import (
	"regexp"
	"strings"
	"testing"
	"unsafe"

	"muslin/api"
	"muslin/cssscan"
	"muslin/jsscan"
	"muslin/marks"
	"muslin/refs"
	"muslin/urlscan"
)

const (
	long16 = "0123456789abcdef"
	long32 = "abcdefghijklmnopqrstuvwxyz-_.:09"
	blanks = "\t\n\f\r "
	sames  = "=" // told for the state itself
)

// st is the state whose text that is.
func st(text string) api.State {
	s, err := marks.Parse(text)
	if err != api.OK {
		panic("no state's text: " + text)
	}
	return s
}

// octet is a text of one octet.
func octet(c byte) string {
	return string([]byte{c})
}

// small is s with small letters in place of A to Z.
func small(s string) string {
	return regexp.MustCompile(`[A-Z]`).ReplaceAllStringFunc(s, func(c string) string { return string(c[0] + 'a' - 'A') })
}

// every is a text of all octets.
func every() string {
	out := make([]byte, 256)
	for i := range out {
		out[i] = byte(i)
	}
	return string(out)
}

// but is every of the octets but those.
func but(octets string) string {
	var out []byte
	for i := range 256 {
		if strings.IndexByte(octets, byte(i)) < 0 {
			out = append(out, byte(i))
		}
	}
	return string(out)
}

// steps tells whether Step is want and err.
func steps(t *testing.T, s api.State, c byte, want api.State, err api.Errno) {
	t.Helper()
	if got, gotErr := Step(s, c); got != want || gotErr != err {
		t.Errorf("P17.1: Step(%+v, %q) is %+v, %d, not %+v, %d", s, c, got, gotErr, want, err)
	}
}

// leads tells whether Feed goes through all of text, to want.
func leads(t *testing.T, s api.State, text string, want api.State) {
	t.Helper()
	if got, at, err := Feed(s, text); got != want || at != len(text) || err != api.OK {
		t.Errorf("P17.2: Feed(%+v, %.80q) is %+v, %d, %d, not %+v", s, text, got, at, err, want)
	}
}

// refuses tells whether Feed answers err at that place of text.
func refuses(t *testing.T, s api.State, text string, place int, err api.Errno) {
	t.Helper()
	if got, at, gotErr := Feed(s, text); got != (api.State{}) || at != place || gotErr != err {
		t.Errorf("P17.2: Feed(%+v, %.80q) is %+v, %d, %d, not %d, %d", s, text, got, at, gotErr, place, err)
	}
}

// reading is a second reading: of a whole text of HTML from its beginning, by expressions that take whole pieces, and of what stands in values and elements by all of its beginnings.
type reading struct {
	t     string
	at    int
	state api.State // at the end, once it is there
	err   api.Errno
}

var (
	dataPiece  = regexp.MustCompile(`\A[^<]+`)
	lessPiece  = regexp.MustCompile(`\A<[^A-Za-z/!?]`)
	tagPiece   = regexp.MustCompile(`\A<(/?)([A-Za-z][^\t\n\f\r />]*)`)
	bogusPiece = regexp.MustCompile(`\A(?:<!|<\?|</)[^>]*>`)
	namePiece  = regexp.MustCompile(`\A(?s:.)[^\t\n\f\r />=]*`)
	equalPiece = regexp.MustCompile(`\A[\t\n\f\r ]*=[\t\n\f\r ]*`)
	blankPiece = regexp.MustCompile(`\A[\t\n\f\r ]*`)
	valuePiece = regexp.MustCompile(`\A(?:"[^"]*"?|'[^']*'?|[^\t\n\f\r >"'][^\t\n\f\r >]*)`)
	refTail    = regexp.MustCompile(`&(?:#(?:[0-9]{0,7}|[xX][0-9A-Fa-f]{0,7})|a|am|amp|ap|apo|apos|l|lt|g|gt|q|qu|quo|quot|)\z`)
)

// stood is what Feed should be from the beginning on.
func stood(t string) (api.State, int, api.Errno) {
	r := reading{t: t}
	for r.more() {
	}
	if r.err != api.OK {
		return api.State{}, r.at, r.err
	}
	return r.state, len(t), api.OK
}

// rest is what has not been read.
func (r *reading) rest() string {
	return r.t[r.at:]
}

// ends takes s for the state at the end, and refused for what is wrong at a place.
func (r *reading) ends(s api.State) bool {
	r.state = s
	return false
}

func (r *reading) refused(at int, err api.Errno) bool {
	r.at, r.err = at, err
	return false
}

// more reads the next piece of data, and tells whether there is more.
func (r *reading) more() bool {
	rest := r.rest()
	switch {
	case dataPiece.MatchString(rest):
		piece := dataPiece.FindString(rest)
		r.at += len(piece)
		if r.rest() == "" {
			return r.ends(api.State{Ref: refTail.FindString(piece)})
		}
		return true
	case lessPiece.MatchString(rest):
		r.at++
		return true
	case rest == "":
		return r.ends(api.State{})
	case rest == "<":
		return r.ends(api.State{Kind: 1})
	case rest == "</":
		return r.ends(api.State{Kind: 2})
	case tagPiece.MatchString(rest):
		return r.tag()
	case strings.HasPrefix(rest, "<!--"):
		return r.comment()
	case bogusPiece.MatchString(rest):
		r.at += len(bogusPiece.FindString(rest))
		return true
	}
	kind := map[string]int{"<!": 13, "<!-": 14}[rest]
	if kind == 0 {
		kind = 15
	}
	return r.ends(api.State{Kind: kind})
}

func (r *reading) comment() bool {
	inner := r.rest()[len("<!--"):]
	if size := strings.Index(inner, "-->"); size >= 0 {
		r.at += len("<!--") + size + len("-->")
		return true
	}
	pend := "--"
	for !strings.HasSuffix(inner, pend) {
		pend = pend[1:]
	}
	return r.ends(api.State{Kind: 16, Pend: pend})
}

func (r *reading) tag() bool {
	m := tagPiece.FindStringSubmatch(r.rest())
	if len(m[2]) > 32 {
		return r.refused(r.at+len("<")+len(m[1])+32, api.ErrLong)
	}
	elem := m[1] + small(m[2])
	r.at += len(m[0])
	if r.rest() == "" {
		return r.ends(api.State{Kind: 3 + len(m[1]), Elem: elem})
	}
	return r.inTag(elem)
}

// inTag reads what stands in a tag behind its name, or a value.
func (r *reading) inTag(elem string) bool {
	behindSlash := false
	for {
		blank := blankPiece.FindString(r.rest())
		r.at += len(blank)
		switch rest := r.rest(); {
		case rest == "" && behindSlash && blank == "":
			return r.ends(api.State{Kind: 12, Elem: elem})
		case rest == "":
			return r.ends(api.State{Kind: 5, Elem: elem})
		case rest[0] == '/':
			behindSlash = true
			r.at++
			continue
		case rest[0] == '>':
			return r.behindTag(elem)
		}
		behindSlash = false
		if !r.attribute(elem) {
			return false
		}
	}
}

// attribute reads a name, and a value if there is one.
func (r *reading) attribute(elem string) bool {
	name := namePiece.FindString(r.rest())
	if len(name) > 32 {
		return r.refused(r.at+32, api.ErrLong)
	}
	r.at += len(name)
	of := api.State{Elem: elem, Attr: small(name)}
	if r.rest() == "" {
		of.Kind = 6
		return r.ends(of)
	}
	equal := equalPiece.FindString(r.rest())
	if equal == "" {
		if r.rest() == blankPiece.FindString(r.rest()) {
			of.Kind = 7
			return r.ends(of)
		}
		return true
	}
	r.at += len(equal)
	if r.rest() == "" {
		of.Kind = 8
		return r.ends(of)
	}
	if r.rest()[0] == '>' {
		return true
	}
	return r.value(of)
}

// value reads a value, by all of its beginnings.
func (r *reading) value(of api.State) bool {
	whole := valuePiece.FindString(r.rest())
	inner, from := whole, r.at
	of.Kind = 10
	ended := len(whole) < len(r.rest())
	if whole[0] == '"' || whole[0] == '\'' {
		of.Kind, of.Delim = 9, whole[0]
		inner, ended = strings.CutSuffix(whole[1:], whole[:1])
		from++
	}
	for i := range len(inner) + 1 {
		next, err := readInner(of, inner[:i], i == len(inner) && ended)
		if err != api.OK {
			return r.refused(from+i-1, err)
		}
		if i == len(inner) && !ended {
			return r.ends(next)
		}
	}
	r.at += len(whole)
	if r.rest() == "" {
		return r.ends(api.State{Kind: 11, Elem: of.Elem})
	}
	return true
}

// readInner is where all of a value's beginning leads to; if it has come to its end, nothing of a reference is on its way.
func readInner(of api.State, inner string, ended bool) (api.State, api.Errno) {
	if !ended {
		of.Ref = refTail.FindString(inner)
		inner = strings.TrimSuffix(inner, of.Ref)
	}
	err := api.OK
	switch inner = refs.Decode(inner); marks.Kind(of) {
	case 1:
		of.Part, of.Word = urlscan.Feed(0, "", inner)
	case 2:
		of.Part, of.Word = jsscan.Feed(0, "", inner)
		if of.Part == 15 {
			err = api.ErrScript
		}
	case 3:
		of.Part, of.Word = cssscan.Feed(0, "", inner)
		if of.Part == 9 {
			err = api.ErrStyle
		}
	}
	return of, err
}

func (r *reading) behindTag(elem string) bool {
	switch elem {
	case "plaintext", "xmp", "iframe", "noembed", "noframes", "noscript":
		return r.refused(r.at, api.ErrContext)
	}
	r.at++
	switch elem {
	case "title", "textarea":
		return r.element(api.State{Kind: 17, Elem: elem})
	case "style":
		return r.element(api.State{Kind: 18, Elem: elem})
	case "script":
		return r.element(api.State{Kind: 19, Elem: elem})
	}
	return true
}

// element reads an element's text, by all of its beginnings, and its end tag's name.
func (r *reading) element(of api.State) bool {
	inner := r.rest()
	end := endPiece(of.Elem).FindStringIndex(inner)
	if end != nil {
		inner = inner[:end[1]-1]
	}
	for i := range len(inner) + 1 {
		next, err := readElement(of, inner[:i])
		if err != api.OK {
			return r.refused(r.at+i-1, err)
		}
		if i == len(inner) && end == nil {
			return r.ends(next)
		}
	}
	r.at += len(inner)
	return r.inTag("/" + of.Elem)
}

// endPiece is an element's end tag up to behind its name, small or great.
func endPiece(elem string) *regexp.Regexp {
	letters := regexp.MustCompile(`.`).ReplaceAllStringFunc(elem, func(c string) string { return "[" + c + strings.ToUpper(c) + "]" })
	return regexp.MustCompile(`</` + letters + `[\t\n\f\r />]`)
}

func readElement(of api.State, inner string) (api.State, api.Errno) {
	if of.Kind == 19 && strings.HasSuffix(inner, "<!--") {
		return of, api.ErrScript
	}
	if at := strings.LastIndex(inner, "<"); at >= 0 {
		tail := inner[at:]
		if strings.HasPrefix("</"+of.Elem, small(tail)) || of.Kind == 19 && strings.HasPrefix("<!--", tail) {
			of.Pend, inner = tail, inner[:at]
		}
	}
	switch of.Kind {
	case 17:
		if of.Pend == "" {
			of.Ref = refTail.FindString(inner)
		}
	case 18:
		of.Part, of.Word = cssscan.Feed(0, "", inner)
		if of.Part == 9 {
			return of, api.ErrStyle
		}
	case 19:
		of.Part, of.Word = jsscan.Feed(0, "", inner)
		if of.Part == 15 {
			return of, api.ErrScript
		}
	}
	return of, api.OK
}

// smallTexts hands out all texts of at most most of the pieces.
func smallTexts(pieces []string, most int) func(yield func(s string) bool) {
	return func(yield func(s string) bool) {
		var grow func(s string, more int) bool
		grow = func(s string, more int) bool {
			if !yield(s) {
				return false
			}
			for _, piece := range pieces {
				if more > 0 && !grow(s+piece, more-1) {
					return false
				}
			}
			return true
		}
		grow("", most)
	}
}

func textsOf(s api.State) []string {
	return []string{s.Elem, s.Attr, s.Pend, s.Ref, s.Word}
}

// inOwnMemory is s with texts in octets that may be written to.
func inOwnMemory(s api.State) (api.State, [][]byte) {
	var octets [][]byte
	own := func(text string) string {
		b, given := fresh(text)
		octets = append(octets, b)
		return given
	}
	return api.State{Kind: s.Kind, Elem: own(s.Elem), Attr: own(s.Attr), Delim: s.Delim, Pend: own(s.Pend), Ref: own(s.Ref), Part: s.Part, Word: own(s.Word)}, octets
}

// fresh answers s in octets that may be written to, and a text that lies in them.
func fresh(s string) ([]byte, string) {
	b := []byte(s)
	if len(b) == 0 {
		return nil, ""
	}
	return b, unsafe.String(&b[0], len(b))
}

// shares tells whether two texts have an octet of memory in common.
func shares(a string, b string) bool {
	if a == "" || b == "" {
		return false
	}
	from, to := uintptr(unsafe.Pointer(unsafe.StringData(a))), uintptr(unsafe.Pointer(unsafe.StringData(b)))
	return from < to+uintptr(len(b)) && to < from+uintptr(len(a))
}
