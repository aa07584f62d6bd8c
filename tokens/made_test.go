package tokens

import (
	"fmt"
	"slices"
	"strings"
	"unsafe"

	"muslin/api"
	"muslin/refs"
)

func start(name string, attrs ...string) api.Token {
	return api.Token{Kind: 1, Name: name, Attrs: pairs(attrs)}
}

func closed(name string, attrs ...string) api.Token {
	return api.Token{Kind: 1, Name: name, Attrs: pairs(attrs), Closed: true}
}

func end(name string) api.Token {
	return api.Token{Kind: 2, Name: name}
}

func said(s string) api.Token {
	return api.Token{Kind: 3, Text: s}
}

func remark(s string) api.Token {
	return api.Token{Kind: 4, Text: s}
}

// pairs are attributes of names and values, one behind the other.
func pairs(l []string) []api.Attr {
	var out []api.Attr
	for i := 0; i+1 < len(l); i += 2 {
		out = append(out, api.Attr{Name: l[i], Value: l[i+1]})
	}
	return out
}

// shown is the beginning of what l has.
func shown(l []api.Token) string {
	return fmt.Sprintf("%.300s", fmt.Sprintf("%+q", fmt.Sprint(l)))
}

// isSame is what Same should be, field by field.
func isSame(a api.Token, b api.Token) bool {
	if a.Kind != b.Kind || a.Name != b.Name || a.Text != b.Text || a.Closed != b.Closed || len(a.Attrs) != len(b.Attrs) {
		return false
	}
	for i := range a.Attrs {
		if a.Attrs[i].Name != b.Attrs[i].Name || a.Attrs[i].Value != b.Attrs[i].Value {
			return false
		}
	}
	return true
}

func areSame(a []api.Token, b []api.Token) bool {
	return slices.EqualFunc(a, b, isSame)
}

// machine reads HTML as the chapter's words have it: each octet is asked in a state, and asked again where they say so.
type machine struct {
	state string
	told  []api.Token
	text  string // as it stands
	tag   api.Token
	quote byte
	hold  string // of a comment
	raw   string // the element whose text is read
}

// read tells what Tokens should, of a text that is not too long and has not too many tokens.
func read(s string) []api.Token {
	m := machine{state: "data"}
	for i := range len(s) {
		for m.ask(s[i]) {
		}
	}
	switch m.state {
	case "tag open":
		m.text += "<"
	case "end open":
		m.text += "</"
	case "comment":
		m.told = append(m.told, remark(m.hold))
	}
	m.endText()
	return m.told
}

// ask asks the octet c, and tells whether it is to be asked again.
func (m *machine) ask(c byte) bool {
	switch m.state {
	case "data", "tag open", "end open", "markup", "markup -", "bogus", "comment", "raw text":
		return m.askOutside(c)
	}
	return m.askInTag(c)
}

func (m *machine) askOutside(c byte) bool {
	switch m.state {
	case "data":
		if c != '<' {
			m.text += string([]byte{c})
			return false
		}
		m.state = "tag open"
	case "tag open":
		switch {
		case letter(c):
			return m.begins(1)
		case c == '/':
			m.state = "end open"
		case c == '!':
			m.endText()
			m.state = "markup"
		case c == '?':
			m.endText()
			m.state = "bogus"
		default:
			m.text += "<"
			m.state = "data"
			return true
		}
	case "end open":
		if letter(c) {
			return m.begins(2)
		}
		m.endText()
		m.state = "bogus"
		if c == '>' {
			m.state = "data"
			return false
		}
		return true
	case "markup", "markup -":
		next := map[string]string{"markup": "markup -", "markup -": "comment"}[m.state]
		if c == '-' {
			m.state, m.hold = next, ""
			return false
		}
		m.state = "bogus"
		return true
	case "bogus":
		if c == '>' {
			m.state = "data"
		}
	case "comment":
		m.hold += string([]byte{c})
		if cut, ok := strings.CutSuffix(m.hold, "-->"); ok {
			m.told = append(m.told, remark(cut))
			m.state = "data"
		}
	case "raw text":
		n := len(m.text) - len("</"+m.raw)
		if n >= 0 && small(m.text[n:]) == "</"+m.raw && (blank(c) || c == '/' || c == '>') {
			m.text = m.text[:n]
			m.endText()
			m.tag, m.state = end(m.raw), "tag name"
			return true
		}
		m.text += string([]byte{c})
	}
	return false
}

func (m *machine) askInTag(c byte) bool {
	one := small(string([]byte{c}))
	last := len(m.tag.Attrs) - 1
	switch state := m.state; {
	case state == "value" && c == m.quote:
		m.state = "after value"
	case state == "value", state == "unquoted" && !blank(c) && c != '>':
		m.tag.Attrs[last].Value += string([]byte{c})
	case state == "after value":
		m.state = "before"
		return true
	case state == "slash" && c == '>':
		m.tag.Closed = true
		m.ends()
	case state == "slash":
		m.state = "before"
		return true
	case c == '>':
		m.ends()
	case blank(c):
		m.state = map[string]string{"tag name": "before", "before": "before", "attribute name": "after name", "after name": "after name", "before value": "before value", "unquoted": "before"}[state]
	case state == "before value":
		m.state = "unquoted"
		if c == '"' || c == '\'' {
			m.state, m.quote = "value", c
		}
		return m.state == "unquoted"
	case c == '/':
		m.state = "slash"
	case state == "tag name":
		m.tag.Name += one
	case state == "before":
		m.tag.Attrs = append(m.tag.Attrs, api.Attr{Name: one})
		m.state = "attribute name"
	case c == '=':
		m.state = "before value"
	case state == "attribute name":
		m.tag.Attrs[last].Name += one
	case state == "after name":
		m.state = "before"
		return true
	}
	return false
}

func (m *machine) begins(kind int) bool {
	m.endText()
	m.tag = api.Token{Kind: kind}
	m.state = "tag name"
	return true
}

func (m *machine) ends() {
	m.state = "data"
	if m.tag.Kind == 2 {
		m.told = append(m.told, end(m.tag.Name))
		return
	}
	for i := range m.tag.Attrs {
		m.tag.Attrs[i].Value = refs.Decode(m.tag.Attrs[i].Value)
	}
	m.told = append(m.told, m.tag)
	if slices.Contains([]string{"title", "textarea", "style", "script"}, m.tag.Name) {
		m.state, m.raw = "raw text", m.tag.Name
	}
}

// endText tells the text on its way.
func (m *machine) endText() {
	if m.text == "" {
		return
	}
	if m.state == "raw text" && (m.raw == "style" || m.raw == "script") {
		m.told = append(m.told, said(m.text))
	} else {
		m.told = append(m.told, said(refs.Decode(m.text)))
	}
	m.text = ""
}

func blank(c byte) bool {
	return c == '\t' || c == '\n' || c == '\f' || c == '\r' || c == ' '
}

func letter(c byte) bool {
	return c >= 'a' && c <= 'z' || c >= 'A' && c <= 'Z'
}

// small is s with the letters A to Z small.
func small(s string) string {
	b := []byte(s)
	for i, c := range b {
		if c >= 'A' && c <= 'Z' {
			b[i] = c - 'A' + 'a'
		}
	}
	return string(b)
}

// inEachState are texts at whose end the reader stands in each of its states.
func inEachState() []string {
	return []string{
		"", "x", "<", "x<", "</", "x</", "<a", "x<aB", "</a", "x</Ab", "<a ", "</a ", "<a b", "<a b=c d", "<a =", "</a b", "<a b ", "</a b ", "<a b=", "</a b=", "<a b= ",
		"<a b=\"", "<a b=\"c", "<a b='", "<a b='c", "</a b=\"c", "<a b=c", "<a b==", "</a b=c", "<a b=\"c\"", "<a b=''", "</a b='c'", "<a/", "<a /", "<a b/", "<a b=c /", "<a b=\"\"/", "</a/",
		"<!", "x<!", "<!-", "x<!-", "<!a", "<?", "x<?a", "</ ", "x</1", "<!-a", "<!--", "x<!--", "<!--a", "<!---", "<!--a-", "<!----", "<!--a--",
		"<title>", "<title>x", "<TITLE>x<", "<title>x</", "<title>x</ti", "<title>x</title", "<title>x</TITLE ", "<title>x</title/", "<textarea>x", "<textarea>x</textarea",
		"<style>", "<style>x</", "<style>x</style", "<style>x</style ", "<script>", "<script>x<", "<script>x</script", "<script>x</sCript\n", "<script/>x", "<script a=b>x</script", "<script><!--<script>x</script",
	}
}

// pieces are what small texts are made of.
func pieces() []string {
	return []string{"<", "/", ">", "a", "B", "=", "\"", "'", " ", "!", "-", "?", "&lt;"}
}

func rawPieces() []string {
	return []string{"<", "/", ">", "title", "sTyle", "script", "<script>", "</script", "<title>", "</textarea>", "<TextArea", "<style/>", " ", "&amp;", "!--", "x"}
}

// smallTexts hands out all texts of at most most of the pieces.
func smallTexts(pieces []string, most int) func(yield func(s string) bool) {
	return func(yield func(s string) bool) {
		var grow func(s string, more int) bool
		grow = func(s string, more int) bool {
			if !yield(s) {
				return false
			}
			for _, piece := range pieces {
				if more > 0 && !grow(s+piece, more-1) {
					return false
				}
			}
			return true
		}
		grow("", most)
	}
}

// oddTexts are texts for the promises that hold of any text.
func oddTexts() []string {
	every := make([]byte, 256)
	for i := range every {
		every[i] = byte(i)
	}
	out := []string{
		string(every), "<" + string(every) + ">", "<a " + string(every) + "\">", "<title>" + string(every) + "</title>", "<!--" + string(every) + "-->", "plain", "é&lt;€😀", "a\x00b\xff", "<é>", "<a\xff\x00 \x80=\xc3 é='\xe2\x82'>", "<\x00", "</\xff>", "<p>a",
		"<!DOCTYPE html><html lang=en><head><title>a &amp; b</title><style>p{a:b}</style><script>if (a<b) f('</p>')</script></head><body class=\"x y\" hidden><p id='1'>one<br/>two &lt; three</p><!-- end --><textarea rows=2>\n<p>&quot;</textarea></body></html>",
		strings.Repeat("<p a=b>x</p>", 300), strings.Repeat("<", 3000), strings.Repeat("</", 3000), strings.Repeat("<!---->", 300), strings.Repeat("<a", 3000), strings.Repeat("&amp;", 3000), "<" + strings.Repeat("a b", 3000) + ">", "<a " + strings.Repeat("b=\"c\" ", 3000) + ">",
	}
	for _, s := range inEachState() {
		out = append(out, s, s+">", s+"\">y", s+"</a>y", s+"-->y")
	}
	return out
}

// goodTokens are tokens of each kind that may be written.
func goodTokens() []api.Token {
	return []api.Token{
		start("p"), start("a", "href", "/x?a=1&b=2"), start("h1", "a", "", "b", "\"'<>&+ \t\n/=", "a", "again"), closed("br"), closed("img", "src", "x", "data-x-1", "é€😀"), start("plaintext"), start("iframe", "-", "&lt;"), start("p", "0", "&amp;lt;", "a-", "\ufffd"), closed("a", "b", "/"),
		start(strings.Repeat("z", api.MaxName)), end("p"), end("h1"), end("title"), end("script"), said("a"), said("<b> & \"'+</b>"), said(" \n"), said("&amp;"), said("é\ufffd\u2028"), said("<!--"), said("</title>"),
		remark(""), remark("a"), remark(" - -- > "), remark("<!--a"), remark("&lt;<p>"), remark("!>--!>"), remark("a\x00\xffb"),
	}
}

// copied are tokens in memory of their own.
func copied(l []api.Token) []api.Token {
	out := make([]api.Token, len(l))
	for i, t := range l {
		out[i] = t
		out[i].Attrs = slices.Clone(t.Attrs)
	}
	return out
}

// textsOf are all texts that tokens have.
func textsOf(l []api.Token) []string {
	var out []string
	for _, t := range l {
		out = append(out, t.Name, t.Text)
		for _, a := range t.Attrs {
			out = append(out, a.Name, a.Value)
		}
	}
	return out
}

// fresh answers s in octets that may be written to, and a text that lies in them.
func fresh(s string) ([]byte, string) {
	b := []byte(s)
	if len(b) == 0 {
		return nil, ""
	}
	return b, unsafe.String(&b[0], len(b))
}

// shares tells whether two texts have an octet of memory in common.
func shares(a string, b string) bool {
	if a == "" || b == "" {
		return false
	}
	from, to := uintptr(unsafe.Pointer(unsafe.StringData(a))), uintptr(unsafe.Pointer(unsafe.StringData(b)))
	return from < to+uintptr(len(b)) && to < from+uintptr(len(a))
}
