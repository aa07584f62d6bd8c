package scan

import (
	"strings"
	"testing"

	"muslin/api"
	"muslin/cssscan"
	"muslin/jsscan"
	"muslin/marks"
	"muslin/refs"
	"muslin/urlscan"
)

// wholeRefs are references and what they stand for; mereRefs are texts that begin as one and come to nothing.
func wholeRefs() map[string]string {
	return map[string]string{
		"&amp;": "&", "&lt;": "<", "&gt;": ">", "&quot;": `"`, "&apos;": "'",
		"&#65;": "A", "&#34;": `"`, "&#39;": "'", "&#60;": "<", "&#0000065;": "A", "&#8364;": "€", "&#128512;": "😀", "&#0;": "\ufffd", "&#55296;": "\ufffd", "&#1114112;": "\ufffd", "&#9999999;": "\ufffd", "&#10;": "\n", "&#58;": ":", "&#92;": `\`, "&#96;": "`",
		"&#x41;": "A", "&#X41;": "A", "&#x22;": `"`, "&#x3C;": "<", "&#x3c;": "<", "&#x0000a;": "\n", "&#x20aC;": "€", "&#x10FFFF;": "\U0010ffff", "&#x0;": "\ufffd", "&#xd800;": "\ufffd", "&#xfffffff;": "\ufffd", "&#xe9;": "é", "&#x3a;": ":", "&#x3A;": ":", "&#x5c;": `\`,
	}
}

func mereRefs() []string {
	return []string{"&;", "& ", "&a", "&x", "&A", "&AMP;", "&Lt", "&ampx", "&amp ", "&amp", "&ltx;", "&lt=", "&g;", "&am;", "&quote", "&quot ", "&apo;", "&aposs", "&nbsp;", "&copy;", "&#;", "&#a", "&#x;", "&#X;", "&#xg", "&#xG", "&#-1", "&#+1", "&# 1", "&#1 ", "&#1a;", "&#12x", "&#12345678", "&#00000065;", "&#x12345678", "&#x00000041;", "&#xx", "&#x ", "&é", "&\x00", "&#\xff", "&/", "&:", "&#:", "&#x:", "&?", "&\\", "&`"}
}

// valueStates are states of values, of attributes of each kind, and of data and titles: in all of them references stand.
func valueStates() []api.State {
	out := []api.State{{}, {Kind: 17, Elem: "title"}, {Kind: 17, Elem: "textarea"}}
	for _, of := range [][2]string{{"p", "class"}, {"p", "srcdoc"}, {"/a", "href"}, {"/a", "onclick"}, {"/a", "style"}, {"a", "href"}, {"object", "data"}, {"p", "onclick"}, {"p", "on"}, {"p", "style"}} {
		for _, delim := range []byte{'"', '\'', 0} {
			s := api.State{Kind: 9, Elem: of[0], Attr: of[1], Delim: delim}
			if delim == 0 {
				s.Kind = 10
			}
			out = append(out, s)
		}
	}
	return out
}

// inPart is s in that part, if it has parts.
func inPart(s api.State, part int, word string) api.State {
	if kind := marks.Kind(s); kind > 0 && kind < 4 || s.Kind > 17 {
		s.Part, s.Word = part, word
	}
	return s
}

// through is where s leads to by what text stands for: by the layers that follow it, octets of the value's end being none here.
func through(s api.State, text string) (api.State, api.Errno) {
	for i := range len(text) {
		was := s.Part
		switch marks.Kind(s) {
		case 1:
			s.Part, s.Word = urlscan.Step(s.Part, s.Word, text[i])
			if was == 4 && s.Part == 5 {
				return api.State{}, api.ErrURL
			}
		case 2:
			if s.Part, s.Word = jsscan.Step(s.Part, s.Word, text[i]); s.Part == 15 {
				return api.State{}, api.ErrScript
			}
		case 3:
			if s.Part, s.Word = cssscan.Step(s.Part, s.Word, text[i]); s.Part == 9 {
				return api.State{}, api.ErrStyle
			}
		}
	}
	return s, api.OK
}

func TestReferences(t *testing.T) { // P17.1
	for _, of := range valueStates() {
		for part := range 16 {
			s := inPart(of, part, "ur")
			for text, stands := range wholeRefs() {
				at := s
				for i := range len(text) - 1 {
					next := at
					next.Ref = text[:i+1]
					steps(t, at, text[i], next, api.OK)
					leads(t, s, text[:i+1], next)
					at = next
				}
				want, err := through(s, stands)
				steps(t, at, ';', want, err)
				if err != api.OK {
					refuses(t, s, text, len(text)-1, err)
					refuses(t, s, text+"<", len(text)-1, err)
				} else {
					leads(t, s, text, want)
				}
				if one, size := refs.One(text); one != stands || size != len(text) {
					t.Fatalf("%q stands for %q", text, one)
				}
			}
		}
	}
}

func TestWhatComesToNoReference(t *testing.T) { // P17.1
	for _, of := range valueStates() {
		for part := range 16 {
			s := inPart(of, part, "ur")
			for _, text := range mereRefs() {
				size := 0 // of what might be one
				for size < len(text) && refs.Unfinished(text[:size+1]) {
					size++
				}
				on := s
				on.Ref = text[:size]
				leads(t, s, on.Ref, on)
				if size == len(text) {
					continue
				}
				behind, err := through(s, on.Ref)
				if err != api.OK {
					steps(t, on, text[size], api.State{}, err)
					continue
				}
				want, err := Step(behind, text[size])
				steps(t, on, text[size], want, err)
			}
		}
	}
}

func TestReferencesEndedByOtherOctets(t *testing.T) { // P17.1
	for _, of := range valueStates() {
		for _, ref := range []string{"&", "&a", "&amp", "&lt", "&#", "&#6", "&#1234567", "&#x", "&#X4", "&#xabcdefA", "&quot"} {
			on := of
			on.Ref = ref
			for _, c := range []byte(every()) {
				if text := ref + octet(c); c == '&' {
					want, _ := through(of, ref)
					want.Ref = "&"
					steps(t, on, c, want, api.OK)
				} else if refs.Unfinished(text) {
					want := of
					want.Ref = text
					steps(t, on, c, want, api.OK)
				} else if _, size := refs.One(text); size == 0 {
					behind, _ := through(of, ref)
					want, err := Step(behind, c)
					steps(t, on, c, want, err)
				}
			}
		}
	}
	leads(t, api.State{}, "&am<p", st("3|p||0|||0|"))
	leads(t, api.State{}, "&am<", st("1|||0|||0|"))
	leads(t, api.State{}, "&am<&l", st("0|||0||%26l|0|"))
	leads(t, api.State{}, "&&&", st("0|||0||%26|0|"))
	leads(t, api.State{}, "&amp;&lt;", api.State{})
	leads(t, api.State{}, "&amp;lt;", api.State{})
	leads(t, api.State{}, "&amp;#6", api.State{})
	leads(t, api.State{}, "<a href=\"&am\"", st("11|a||0|||0|"))
	leads(t, api.State{}, "<a href='&am\"", st("9|a|href|39|||1|%26am%22"))
	leads(t, api.State{}, "<a href=&am ", st("5|a||0|||0|"))
	leads(t, api.State{}, "<a href=&am>", api.State{})
	leads(t, api.State{}, "<a href=&am;", st("10|a|href|0|||1|%26am%3b"))
	leads(t, api.State{}, "<a href=&am&amp;", st("10|a|href|0|||1|%26am%26"))
	leads(t, api.State{}, "<a href=&#", st("10|a|href|0||%26%23|0|"))
	leads(t, api.State{}, "<a href=&#\"", st("10|a|href|0|||3|"))
	leads(t, api.State{}, "<title>&am<", st("17|title||0|%3c||0|"))
	leads(t, api.State{}, "<title>&am<&lt", st("17|title||0||%26lt|0|"))
	leads(t, api.State{}, "<title>&am</tit", st("17|title||0|%3c%2ftit||0|"))
	leads(t, api.State{}, "<title>&am</title>", api.State{})
	leads(t, api.State{}, "<title>&am</title>&am", st("0|||0||%26am|0|"))
}

func TestReferencesHandedIn(t *testing.T) { // P17.1: what may be on its way, though no octets have put it there
	for _, of := range valueStates() {
		for _, ref := range []string{"a", "amp", "&lt;", "&x", "&#12345678", "x&lt", "&lt;&lt", " ", "\"", ">", "'", "<", "\xff", long16, "&#x00000000041"} {
			on := of
			on.Ref = ref
			behind, err := through(of, ref)
			for _, c := range []byte("at;\x00\xff(/") {
				if err != api.OK {
					steps(t, on, c, api.State{}, err)
					continue
				}
				want, err := Step(behind, c)
				steps(t, on, c, want, err)
			}
			if err == api.OK {
				behind.Ref = "&"
				steps(t, on, '&', behind, api.OK)
			}
		}
	}
}

func TestPartsOfValues(t *testing.T) { // P17.1
	for _, of := range valueStates() {
		for part := range 16 {
			for _, word := range []string{"", "u", "url", "?", "return", "http", "x", long16} {
				s := inPart(of, part, word)
				if s.Kind < 9 || s.Kind > 10 || marks.Check(s) != api.OK {
					continue
				}
				ends := octet(s.Delim)
				if s.Kind == 10 {
					ends = blanks + ">"
				}
				for _, c := range []byte(but(ends + "&")) {
					want, err := through(s, octet(c))
					steps(t, s, c, want, err)
				}
			}
		}
	}
}

func TestTextsOfValues(t *testing.T) { // P17.1
	for text, want := range map[string]string{
		"<a href='http": "9|a|href|39|||1|http", "<a href='HTTP:": "9|a|href|39|||2|", "<a href='javascript:x": "9|a|href|39|||5|", "<a href='java&#115;cript&#58;x": "9|a|href|39|||5|", "<a href='/x?y": "9|a|href|39|||3|", "<a href='?": "9|a|href|39|||3|", "<a href='&#63;": "9|a|href|39|||3|", "<a href=/": "10|a|href|0|||2|", "<a href=x/": "10|a|href|0|||2|", "<a href='&eacute": "9|a|href|39|||1|%26eacute", "<a HREF='A": "9|a|href|39|||1|a",
		"<object data='x": "9|object|data|39|||1|x", "<p data='x": "9|p|data|39|||0|", "<p class='javascript:": "9|p|class|39|||0|", "<p srcdoc='`": "9|p|srcdoc|39|||0|", "<img srcset=`": "10|img|srcset|0|||0|",
		"<p onclick='": "9|p|onclick|39|||0|", "<p onclick='f(": "9|p|onclick|39|||0|", "<p onclick='f(\"": "9|p|onclick|39|||2|", "<p onclick=\"f('": "9|p|onclick|34|||3|", "<p onclick='f(&#34;": "9|p|onclick|39|||2|", "<p onclick='f(&#39;": "9|p|onclick|39|||3|", "<p onclick=\"f(&quot;a&quot;": "9|p|onclick|34|||1|", "<p onclick=\"f(&apos;\\&apos;": "9|p|onclick|34|||3|", "<p ONCLICK=return": "10|p|onclick|0|||1|return", "<p onx=x&amp;&amp;": "10|p|onx|0|||0|", "<p on='a&euro;&#8364;": "9|p|on|39|||1|%e2%82%ac", "<p on='//&#10;": "9|p|on|39|||0|", "<p on=a/b": "10|p|on|0|||1|b", "<p on=\"'<script>": "9|p|on|34|||3|", "<p on=\"'<!--": "9|p|on|34|||3|",
		"<p style='a:ur": "9|p|style|39|||0|ur", "<p style='a:url(": "9|p|style|39|||8|", "<p style='a:u&#114;l(": "9|p|style|39|||8|", "<p style='a:\"": "9|p|style|39|||1|", "<p style=\"&apos;": "9|p|style|34|||2|", "<p style='/*": "9|p|style|39|||6|", "<p style='/&#42;": "9|p|style|39|||6|", "<p STYLE=a:b;c": "10|p|style|0|||0|c", "<p style='&#x5A": "9|p|style|39||%26%23x5A|0|", "<p style='&#x5A;": "9|p|style|39|||0|z",
		"</a onclick='`": "9|%2fa|onclick|39|||0|", "</a style=\\": "10|%2fa|style|0|||0|", "</a href=x:": "10|%2fa|href|0|||0|",
		"<p on='\"": "9|p|on|39|||2|", "<p on='\"'": "11|p||0|||0|", "<p on=\"/*\"": "11|p||0|||0|", "<p on=' on='": "11|p||0|||0|", "<p style='\"' on=\"": "9|p|on|34|||0|", "<p on='\"' style='": "9|p|style|39|||0|", "<a href='a:' href='": "9|a|href|39|||0|", "<p style=url( on=a": "10|p|on|0|||1|a",
	} {
		leads(t, api.State{}, text, st(want))
	}
	for text, want := range map[string]struct {
		place int
		err   api.Errno
	}{
		"<p onclick='`x": {12, api.ErrScript}, "<p on=`": {6, api.ErrScript}, "<p on='\"\nx": {8, api.ErrScript}, "<p on='/a\r": {9, api.ErrScript}, "<p on='/[a\n": {10, api.ErrScript}, "<p on='&#96;x": {11, api.ErrScript}, "<p on='\"a&#10;": {13, api.ErrScript}, "<p on=\"&apos;&#xd;\">": {17, api.ErrScript}, "<p on='a'on='`": {13, api.ErrScript},
		"<p style='\\": {10, api.ErrStyle}, "<p style=a\\:": {10, api.ErrStyle}, "<p style='\"\n": {11, api.ErrStyle}, "<p style=\"'\r": {11, api.ErrStyle}, "<p style='&#92;": {14, api.ErrStyle}, "<p style='&quot;&#10;'": {20, api.ErrStyle},
	} {
		refuses(t, api.State{}, text, want.place, want.err)
		refuses(t, api.State{}, text+" <p on=`", want.place, want.err)
	}
}

func TestSchemesBehindAnAction(t *testing.T) { // P17.1
	for _, s := range []api.State{{Kind: 9, Elem: "a", Attr: "href", Delim: '"', Part: 4}, {Kind: 10, Elem: "object", Attr: "data", Part: 4}} {
		for text, place := range map[string]int{":": 0, "a:": 1, "&#58;": 4, "&#x3a;x": 5, "x&#58;": 5, "a&amp;:": 6, "&lt:": 3, "&:": 1, "&a&:": 3, "http:": 4, "HTTPS:x": 5, "mailto:": 6} {
			refuses(t, s, text, place, api.ErrURL)
			refuses(t, s, text+"\"", place, api.ErrURL)
		}
		for text, part := range map[string]int{"": 4, "a": 4, "/:": 2, "&#47;:": 2, "?:": 3, "#:": 3, "&#35;&#58;": 3, "a/b:c": 2, "&amp": 4, "&#": 4} {
			want := s
			want.Part = part
			if strings.HasPrefix(text, "&amp") || text == "&#" {
				want.Ref = text
			}
			leads(t, s, text, want)
		}
		leads(t, s, "a> x", map[int]api.State{9: s, 10: {}}[s.Kind])
		for part := range 16 {
			if s.Part = part; part != 4 {
				if _, _, err := Feed(s, "::a:&#58;:"); err != api.OK { // ErrURL is of 4 alone
					t.Errorf("P17.1: a : in part %d is %d", part, err)
				}
			}
		}
		s.Part, s.Ref = 4, "a:"
		refuses(t, s, "\"", 0, api.ErrURL)
		refuses(t, s, ">", 0, api.ErrURL)
	}
	for _, s := range []api.State{{Kind: 9, Elem: "a", Attr: "class", Delim: '"'}, {Kind: 9, Elem: "/a", Attr: "href", Delim: '"'}, {Kind: 9, Elem: "a", Attr: "on", Delim: '"', Part: 4}, {Kind: 9, Elem: "a", Attr: "style", Delim: '"', Part: 4}, {Kind: 18, Elem: "style", Part: 4}, {Kind: 19, Elem: "script", Part: 4}} {
		if _, err := Step(s, ':'); err != api.OK {
			t.Errorf("P17.1: a : in %+v is %d", s, err)
		}
	}
}

func TestValuesThatEnd(t *testing.T) { // P17.1
	for _, of := range valueStates() {
		for part := range 16 {
			s := inPart(of, part, "")
			if s.Kind < 9 || s.Kind > 10 || s.Part != part {
				continue
			}
			err := api.OK
			switch kind := marks.Kind(s); {
			case kind == 2 && part == 15:
				err = api.ErrScript
			case kind == 3 && part == 9:
				err = api.ErrStyle
			}
			behind := func(want api.State) api.State {
				if err != api.OK {
					return api.State{}
				}
				want.Elem = s.Elem
				return want
			}
			if s.Kind == 9 {
				steps(t, s, s.Delim, behind(api.State{Kind: 11}), err)
				continue
			}
			for _, c := range []byte(blanks) {
				steps(t, s, c, behind(api.State{Kind: 5}), err)
			}
			steps(t, s, '>', api.State{}, err)
		}
	}
	for _, s := range []api.State{{Kind: 10, Elem: "p", Attr: "on", Part: 2, Ref: "\n"}, {Kind: 9, Elem: "p", Attr: "on", Delim: '>', Part: 2, Ref: "\n"}} { // what was on its way is what ends it
		s.Delim = map[int]byte{9: '"', 10: 0}[s.Kind]
		steps(t, s, map[int]byte{9: '"', 10: ' '}[s.Kind], api.State{}, api.ErrScript)
	}
	iframe := api.State{Kind: 10, Elem: "iframe", Attr: "onload", Part: 15}
	steps(t, iframe, '>', api.State{}, api.ErrContext) // which the chapter names ahead of ErrScript
	steps(t, iframe, ' ', api.State{}, api.ErrScript)
	steps(t, iframe, 'a', api.State{}, api.ErrScript)
	iframe = api.State{Kind: 10, Elem: "xmp", Attr: "href", Part: 4, Ref: ":"}
	steps(t, iframe, '>', api.State{}, api.ErrContext)
	steps(t, iframe, ' ', api.State{}, api.ErrURL)
	iframe = api.State{Kind: 10, Elem: "/xmp", Attr: "href", Ref: ":"}
	steps(t, iframe, '>', api.State{}, api.OK)
}
