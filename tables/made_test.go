package tables

import (
	"regexp"
	"strings"
	"unsafe"
)

var (
	elementOnes   = regexp.MustCompile(`\A(?:(title|textarea)|(style)|(script)|(plaintext|xmp|iframe|noembed|noframes|noscript))\z`)
	attributeOnes = regexp.MustCompile(`(?s)\A(?:(href|src|(?:form)?action|cite|poster|background|longdesc|manifest|icon)|(on.*)|(style)|(src(?:doc|set)|http-equiv|ping|xmlns.*|))\z`)
	voidOnes      = regexp.MustCompile(`\A(?:area|base|br|col|embed|hr|img|input|link|meta|param|source|track|wbr)\z`)
)

// kindBy tells which of the groups of e takes s, from 1 on; 0 of none.
func kindBy(e *regexp.Regexp, s string) int {
	found := e.FindStringSubmatchIndex(s)
	for group := 1; 2*group < len(found); group++ {
		if found[2*group] >= 0 {
			return group
		}
	}
	return 0
}

// elementKind tells what Element should, by an expression that the program does not look at.
func elementKind(name string) int {
	return kindBy(elementOnes, name)
}

// attributeKind tells what Attribute should.
func attributeKind(elem string, attr string) int {
	if attr == "data" && elem == "object" {
		return 1
	}
	return kindBy(attributeOnes, attr)
}

// elementNames are what Elements should answer.
func elementNames() []string {
	return []string{"title", "textarea", "style", "script", "plaintext", "xmp", "iframe", "noembed", "noframes", "noscript"}
}

// elementKinds are the kinds of elementNames, place by place.
func elementKinds() []int {
	return []int{1, 1, 2, 3, 4, 4, 4, 4, 4, 4}
}

func urlNames() []string {
	return []string{"href", "src", "action", "formaction", "cite", "poster", "background", "longdesc", "manifest", "icon"}
}

func refusedNames() []string {
	return []string{"srcdoc", "srcset", "http-equiv", "ping"}
}

func voidNames() []string {
	return []string{"area", "base", "br", "col", "embed", "hr", "img", "input", "link", "meta", "param", "source", "track", "wbr"}
}

// ownNames are all names that the chapter has.
func ownNames() []string {
	out := append(elementNames(), urlNames()...)
	out = append(out, refusedNames()...)
	out = append(out, voidNames()...)
	return append(out, "data", "object", "on", "onclick", "onload", "style", "xmlns", "xmlns:x", "xmlnsx")
}

// otherElements are elements that are in none of the chapter's lists.
func otherElements() []string {
	return []string{"a", "p", "b", "div", "span", "html", "head", "body", "form", "object", "frame", "frameset", "applet", "template", "svg", "math", "option", "select", "button", "video", "audio", "canvas", "pre", "listing", "noscripts", "keygen", "command", "image", "foreignobject", "annotation-xml", "h1", "h6", "br1", "/title", "/script", "/br", "title/", "svg:style", "svg:script", "titletextarea", "stylescript", "title textarea", "area base", "style,script", "col br"}
}

// otherAttributes are attributes of kind 0, of whatever element.
func otherAttributes() []string {
	return []string{"a", "id", "class", "title", "alt", "value", "name", "type", "rel", "media", "lang", "dir", "width", "height", "content", "charset", "method", "target", "data-x", "data-href", "datasrc", "data ", " data", "dat", "ata", "object", "objectdata", "xlink:href", "hrefs", "hreflang", "codebase", "classid", "usemap", "profile", "dynsrc", "lowsrc", "archive", "formmethod", "formtarget", "action form", "form", "formactio", "http", "equiv", "httpequiv", "http_equiv", "http-equi", "imagesrcset", "srcse", "srcdo", "o", "n", "no", "xon", "xonclick", " on", " onclick", "o n", "\x00on", "-on", "data-on", "aonclick", "xmln", "xml", "mlns", "xml:lang", "xml:base", "xm lns", "xxmlns", " xmlns", "xmlsn", "styles", "astyle", "style ", "style:", "pings", "pin", "p ing", "icons", "ico", "href src", "hrefsrc", "script", "textarea", "iframe", "=", "\"", "'", "<", ">", "/", "href=", "/href", "src/"}
}

// greatOnes are s with one letter great, for each of its letters, and s with all of them.
func greatOnes(s string) []string {
	out := []string{strings.ToUpper(s)}
	for i := range len(s) {
		if one := s[:i] + strings.ToUpper(s[i:i+1]) + s[i+1:]; one != s { // signs have no great form
			out = append(out, one)
		}
	}
	return out
}

// beginnings are the proper beginnings of s, the empty one too.
func beginnings(s string) []string {
	var out []string
	for i := range len(s) {
		out = append(out, s[:i])
	}
	return out
}

// oneOff are s with an octet more, other or less, at each of its places.
func oneOff(s string) []string {
	var out []string
	for i := range len(s) {
		out = append(out, s[:i]+s[i+1:])
	}
	for n := range 256 {
		c := string([]byte{byte(n)})
		for i := range len(s) + 1 {
			out = append(out, s[:i]+c+s[i:])
			if i < len(s) {
				out = append(out, s[:i]+c+s[i+1:])
			}
		}
	}
	return out
}

// oddTexts are texts for the promises that hold of any text.
func oddTexts() []string {
	every := make([]byte, 256)
	for i := range every {
		every[i] = byte(i)
	}
	out := []string{
		"", " ", "\x00", "\xff", "\x80", "é", "ｓtyle", "\u017ftyle", "\u017frc", "\u017fcript", "t\u0131tle", "t\u0130tle", "p\u0131ng", "l\u0131n\u212a", "trac\u212a", "\u212a", "ſ", "style\u0301", "\ufeffstyle", "on\u00e9", "ön", "xmlns\u00e9", "\xc3on", "on\xc3", "xmlns\xff", "\xffxmlns", "href\xe2\x82", "title\x00", "\x00title", "ti\x00tle", "ti tle", "title ", " title", "title\n", "\ntitle", "br\n", "href\n", "on\n", "on \x00", "on\nclick", "xmlns\n:x", "\n",
		string(every), strings.Repeat("on", 500), strings.Repeat("xmlns", 200), strings.Repeat("style", 200), strings.Repeat("a", 5000), strings.Join(ownNames(), " "), strings.Join(ownNames(), ""),
	}
	out = append(out, otherElements()...)
	out = append(out, otherAttributes()...)
	for _, name := range ownNames() {
		out = append(out, name, name+name, "/"+name, name+"/", name+":", name+"=")
		out = append(out, greatOnes(name)...)
		out = append(out, beginnings(name)...)
	}
	for _, c := range every {
		o := string([]byte{c})
		out = append(out, o, "on"+o, o+"on", "o"+o+"n", "xmlns"+o, o+"xmlns", "data"+o, "b"+o, o+"r")
	}
	return out
}

// smallTexts hands out all texts of at most most of the pieces.
func smallTexts(pieces []string, most int) func(yield func(s string) bool) {
	return func(yield func(s string) bool) {
		var grow func(s string, more int) bool
		grow = func(s string, more int) bool {
			if !yield(s) {
				return false
			}
			for _, piece := range pieces {
				if more > 0 && !grow(s+piece, more-1) {
					return false
				}
			}
			return true
		}
		grow("", most)
	}
}

func smallPieces() []string {
	return []string{"title", "text", "area", "st", "yle", "script", "no", "frame", "s", "src", "set", "doc", "form", "action", "on", "data", "xmlns", ":", "-", "S", " "}
}

// fresh answers s in octets that may be written to, and a text that lies in them.
func fresh(s string) ([]byte, string) {
	b := []byte(s)
	if len(b) == 0 {
		return nil, ""
	}
	return b, unsafe.String(&b[0], len(b))
}

// shares tells whether two texts have an octet of memory in common.
func shares(a string, b string) bool {
	if a == "" || b == "" {
		return false
	}
	from, to := uintptr(unsafe.Pointer(unsafe.StringData(a))), uintptr(unsafe.Pointer(unsafe.StringData(b)))
	return from < to+uintptr(len(b)) && to < from+uintptr(len(a))
}
