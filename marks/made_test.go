package marks

import (
	"fmt"
	"net/url"
	"regexp"
	"strconv"
	"strings"
	"unicode/utf8"
	"unsafe"

	"muslin/api"
)

const (
	long16 = "0123456789abcdef"
	long32 = long16 + long16
)

// fieldNames are the fields in the order in which they are numbered.
func fieldNames() []string {
	return []string{"Kind", "Elem", "Attr", "Delim", "Pend", "Ref", "Part", "Word"}
}

// usedBy tells the first letters of the fields that a state of that kind uses; v stands for Part and Word in a value that has parts.
func usedBy(kind int) string {
	return []string{"R", "", "", "E", "E", "E", "EA", "EA", "EA", "EADRv", "EARv", "E", "E", "", "", "", "P", "EPR", "EPpW", "EPpW"}[kind]
}

// partedAttrs are attributes of 1 to 3, whatever their element.
func partedAttrs() []string {
	return []string{"href", "src", "action", "formaction", "cite", "poster", "background", "longdesc", "manifest", "icon", "on", "onclick", "onload", "on1", "style"}
}

// plainAttrs are attributes of 0 and 4, whatever their element but object.
func plainAttrs() []string {
	return []string{"", "class", "id", "title", "data-x", "data", "o", "xon", "styles", "hrefs", "srcdoc", "srcset", "http-equiv", "ping", "xmlns", "xmlns:x", "HREF", "OnClick", "Style", "\xff", " href"}
}

var partedOnes = regexp.MustCompile(`(?s)\A(?:[^/].*|)\|(?:href|src|(?:form)?action|cite|poster|background|longdesc|manifest|icon|on.*|style)\z|\Aobject\|data\z`)

// fieldsUsed tells for each field whether s uses it, its kind being one.
func fieldsUsed(s api.State) [8]bool {
	all := usedBy(s.Kind)
	if strings.Contains(all, "v") && partedOnes.MatchString(s.Elem+"|"+s.Attr) {
		all += "pW"
	}
	has := func(letter string) bool { return strings.Contains(all, letter) }
	return [8]bool{true, has("E"), has("A"), has("D"), has("P"), has("R"), has("p"), has("W")}
}

// checked is what Check should be.
func checked(s api.State) api.Errno {
	if s.Kind < 0 || s.Kind > 19 {
		return api.ErrRange
	}
	zero := [8]bool{false, s.Elem == "", s.Attr == "", s.Delim == 0, s.Pend == "", s.Ref == "", s.Part == 0, s.Word == ""}
	for i, used := range fieldsUsed(s) {
		if !used && !zero[i] {
			return api.ErrState
		}
	}
	tooMuch := len(s.Elem) > 33 || len(s.Attr) > 32 || len(s.Pend) > 34 || len(s.Ref) > 16 || len(s.Word) > 16 || s.Part < 0 || s.Part > 15
	if tooMuch || s.Kind == 9 && !strings.ContainsRune(`"'`, rune(s.Delim)) {
		return api.ErrState
	}
	return api.OK
}

// with is s with something in the field of that number, from 1 on; which of two things tells other.
func with(s api.State, field int, other bool) api.State {
	text, n := "a", 1
	if other {
		text, n = "/b", 2
	}
	switch field {
	case 1:
		s.Kind += n
	case 2:
		s.Elem += text
	case 3:
		s.Attr += text
	case 4:
		s.Delim += byte(n)
	case 5:
		s.Pend += text
	case 6:
		s.Ref += text
	case 7:
		s.Part += n
	case 8:
		s.Word += text
	}
	return s
}

// bare is the state of that kind with nothing in it but what must be.
func bare(kind int) api.State {
	if kind == 9 {
		return api.State{Kind: kind, Delim: '"'}
	}
	return api.State{Kind: kind}
}

// goodStates are states that may be, and whose texts are as repaired.
func goodStates() []api.State {
	out := []api.State{
		{}, {Ref: "&"}, {Ref: "&#x10ffff"}, {Ref: long16},
		{Kind: 3, Elem: "p"}, {Kind: 3, Elem: long32}, {Kind: 3, Elem: "/" + long32}, {Kind: 4, Elem: "/title"}, {Kind: 4, Elem: "p"}, {Kind: 5, Elem: "é/|%"}, {Kind: 5, Elem: "/p"},
		{Kind: 6, Elem: "p", Attr: "hre"}, {Kind: 6, Elem: "/p", Attr: long32}, {Kind: 7, Elem: "a", Attr: "href"}, {Kind: 8, Elem: "a", Attr: "a|b"}, {Kind: 8, Attr: "%41"},
		{Kind: 9, Elem: "a", Attr: "href", Delim: '"', Ref: "&am", Part: 1, Word: "http"}, {Kind: 9, Elem: "p", Attr: "onclick", Delim: '\'', Part: 15, Word: long16}, {Kind: 9, Elem: "/a", Attr: "href", Delim: '\'', Ref: "&"},
		{Kind: 9, Elem: "p", Attr: "style", Delim: '"', Part: 9}, {Kind: 9, Elem: "object", Attr: "data", Delim: '"', Part: 4}, {Kind: 9, Elem: "p", Attr: "srcdoc", Delim: '"', Ref: " \t\n"}, {Kind: 9, Delim: '\''},
		{Kind: 10, Elem: "a", Attr: "src", Ref: "&#", Part: 2}, {Kind: 10, Elem: "p", Attr: "on", Word: "retu"}, {Kind: 10, Elem: "", Attr: "style", Word: "?"}, {Kind: 10, Elem: "/p", Attr: "on", Ref: "&"}, {Kind: 10, Elem: "p", Attr: "class"},
		{Kind: 11, Elem: "p"}, {Kind: 12, Elem: "/br"},
		{Kind: 16, Pend: "-"}, {Kind: 16, Pend: "--"}, {Kind: 16, Pend: "no dashes"}, {Kind: 16, Pend: long32 + "--"},
		{Kind: 17, Elem: "title", Pend: "</ti", Ref: "&"}, {Kind: 17, Elem: "textarea", Ref: "\u20ac"}, {Kind: 17, Elem: "p", Pend: "\U0001f600"},
		{Kind: 18, Elem: "style", Pend: "</STYLE", Part: 8, Word: "url"}, {Kind: 18, Part: 15, Word: "a-b_c"}, {Kind: 19, Elem: "script", Pend: "<!-", Part: 15}, {Kind: 19, Elem: "script", Part: 1, Word: "in$\u00ff\ufffd"},
	}
	for kind := range 20 {
		out = append(out, bare(kind))
	}
	return out
}

// oddStates are states of which many may not be, or have texts that are not as repaired.
func oddStates() []api.State {
	every := make([]byte, 256)
	for i := range every {
		every[i] = byte(i)
	}
	out := goodStates()
	for _, text := range []string{"\x00", "\xff", "\xc3", "\xed\xa0\x80", "a\x00b", string(every), "|", "||||||||", "%", "%4", "%00", " ", "\n", strings.Repeat("\xff", 16), strings.Repeat("a", 34), strings.Repeat("|", 1000)} {
		for _, kind := range []int{0, 9, 10, 16, 17, 19, 20, -1} {
			out = append(out, api.State{Kind: kind, Elem: text}, api.State{Kind: kind, Attr: text}, api.State{Kind: kind, Pend: text}, api.State{Kind: kind, Ref: text}, api.State{Kind: kind, Word: text})
			out = append(out, api.State{Kind: kind, Elem: text, Attr: text, Delim: '"', Pend: text, Ref: text, Part: 3, Word: text})
		}
	}
	for _, n := range oddNumbers() {
		out = append(out, api.State{Kind: n}, api.State{Part: n}, api.State{Kind: n, Part: n, Delim: byte(n)}, api.State{Kind: 19, Part: n}, api.State{Kind: 9, Attr: "href", Delim: '"', Part: n})
	}
	return out
}

func oddNumbers() []int {
	return []int{-1, -2, 15, 16, 20, 21, 255, 256, 1<<32 + 9, -1 << 32, 1<<63 - 1, -1 << 63}
}

// encoded is what a text should be printed as.
func encoded(s string) string {
	var out strings.Builder
	for _, c := range s { // U+FFFD of each octet that begins no character
		if c == 0 {
			c = utf8.RuneError
		}
		if c < 0x80 && strings.ContainsRune("ABCDEFGHIJKLMNOPQRSTUVWXYZabcdefghijklmnopqrstuvwxyz0123456789-._~", c) {
			out.WriteRune(c)
			continue
		}
		for _, octet := range []byte(string(c)) {
			fmt.Fprintf(&out, "%%%02x", octet)
		}
	}
	return out.String()
}

// printed is what Print should be.
func printed(s api.State) string {
	return fmt.Sprintf("%d|%s|%s|%d|%s|%s|%d|%s", s.Kind, encoded(s.Elem), encoded(s.Attr), s.Delim, encoded(s.Pend), encoded(s.Ref), s.Part, encoded(s.Word))
}

var (
	forms   = regexp.MustCompile(strings.ReplaceAll(strings.ReplaceAll(`\A(N)\|(T)\|(T)\|(N)\|(T)\|(T)\|(N)\|(T)\z`, "N", `0|-?[1-9][0-9]*`), "T", `(?:[A-Za-z0-9._~-]|%[0-9a-f][0-9a-f])*`))
	needNot = regexp.MustCompile(`%(?:2[de]|3[0-9]|4[1-9a-f]|5[0-9af]|6[1-9a-f]|7[0-9ae])`)
)

// parsed is what Parse should be, by expressions that the program does not look at.
func parsed(t string) (api.State, api.Errno) {
	found := forms.FindStringSubmatch(t)
	if found == nil || needNot.MatchString(t) {
		return api.State{}, api.ErrSyntax
	}
	var texts [9]string
	for i := range found[1:] {
		text, err := url.PathUnescape(found[i+1])
		if err != nil || !utf8.ValidString(text) || strings.Contains(text, "\x00") {
			return api.State{}, api.ErrSyntax
		}
		texts[i+1] = text
	}
	kind, noKind := strconv.ParseInt(texts[1], 10, 64)
	delim, noDelim := strconv.ParseUint(texts[4], 10, 8)
	part, noPart := strconv.ParseInt(texts[7], 10, 64)
	if noKind != nil || noDelim != nil || noPart != nil {
		return api.State{}, api.ErrSyntax
	}
	s := api.State{Kind: int(kind), Elem: texts[2], Attr: texts[3], Delim: byte(delim), Pend: texts[5], Ref: texts[6], Part: int(part), Word: texts[8]}
	if err := checked(s); err != api.OK {
		return api.State{}, err
	}
	return s, api.OK
}

// joined are eight parts as a text.
func joined(parts ...string) string {
	return strings.Join(parts, "|")
}

// nearTo are texts that are t with an octet more, other or less, at each of its places.
func nearTo(t string) []string {
	var out []string
	for i := range len(t) + 1 {
		if i < len(t) {
			out = append(out, t[:i]+t[i+1:], t[:i], t[i:])
		}
		for c := range 256 {
			one := string([]byte{byte(c)})
			out = append(out, t[:i]+one+t[i:])
			if i < len(t) {
				out = append(out, t[:i]+one+t[i+1:])
			}
		}
	}
	return out
}

// smallTexts hands out all texts of at most most of the pieces.
func smallTexts(pieces []string, most int) func(yield func(s string) bool) {
	return func(yield func(s string) bool) {
		var grow func(s string, more int) bool
		grow = func(s string, more int) bool {
			if !yield(s) {
				return false
			}
			for _, piece := range pieces {
				if more > 0 && !grow(s+piece, more-1) {
					return false
				}
			}
			return true
		}
		grow("", most)
	}
}

func textsOf(s api.State) []string {
	return []string{s.Elem, s.Attr, s.Pend, s.Ref, s.Word}
}

// fresh answers s in octets that may be written to, and a text that lies in them.
func fresh(s string) ([]byte, string) {
	b := []byte(s)
	if len(b) == 0 {
		return nil, ""
	}
	return b, unsafe.String(&b[0], len(b))
}

// shares tells whether two texts have an octet of memory in common.
func shares(a string, b string) bool {
	if a == "" || b == "" {
		return false
	}
	from, to := uintptr(unsafe.Pointer(unsafe.StringData(a))), uintptr(unsafe.Pointer(unsafe.StringData(b)))
	return from < to+uintptr(len(b)) && to < from+uintptr(len(a))
}
