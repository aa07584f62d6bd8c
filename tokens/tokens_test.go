package tokens

import (
	"strings"
	"testing"

	"muslin/api"
	"muslin/refs"
)

// holds tells of Tokens(s) whether it is want, by which promise.
func holds(t *testing.T, s string, want ...api.Token) {
	t.Helper()
	got, err := Tokens(s)
	if err != api.OK || !areSame(got, want) {
		t.Errorf("P12.1: Tokens(%.80q) is %s, %d, not %s", s, shown(got), err, shown(want))
	}
}

func TestTexts(t *testing.T) { // P12.1
	holds(t, "")
	holds(t, "a", said("a"))
	holds(t, " \n", said(" \n"))
	holds(t, "a>b\"'=/!-?", said("a>b\"'=/!-?"))
	holds(t, "a&lt;b&amp;&#65;&#x42;&amp", said("a<b&AB&amp"))
	holds(t, "&lt;p&gt;", said("<p>"))
	holds(t, "é\x00\xff\x80", said("é\x00\xff\x80"))
	holds(t, "<p>a", start("p"), said("a"))
}

func TestSignsThatAreText(t *testing.T) { // P12.1
	for _, s := range []string{"<", "</", "a<", "a</", "<>", "a<>b", "< a>", "<<", "<</", "< ", "<1>", "<-", "<=", "<\"", "<\x00", "<\xff", "<é>", "<&", "<_a>", "<[CDATA[", "a < b < c"} {
		holds(t, s, said(s))
	}
	holds(t, "a<b", said("a"))
	holds(t, "&l<;t;&lt<;", said("&l<;t;&lt<;"))
	holds(t, "&lt;<&gt;", said("<<>"))
	holds(t, "<<p>", said("<"), start("p"))
	holds(t, "<<<</p>", said("<<<"), end("p"))
	holds(t, "x<</p>", said("x<"), end("p"))
	holds(t, "<p></", start("p"), said("</"))
	holds(t, "<p><", start("p"), said("<"))
}

func TestSignsThatEndATextAndTellNothing(t *testing.T) { // P12.1
	for _, s := range []string{"</>", "</ >", "</1>", "</!-->", "</?>", "</=>", "</ a b='c'>", "</<>", "</\x00>", "</\xff>", "</é>", "</&gt;>", "<?>", "<?a>", "<?a b=\"c\"?>", "<??>", "<?<>", "<?->", "<!>", "<!->", "<!a>", "<!DOCTYPE html>", "<! -->", "<!-a->", "<!- ->", "<!<>", "<![CDATA[x]]>", "<!\x00>", "<!\xff>", "<!\"'>", "</-->", "<!-\x00>"} {
		holds(t, s)
		holds(t, "a"+s+"b", said("a"), said("b"))
		holds(t, s+s+"b"+s, said("b"))
		holds(t, "<p>"+s+"</p>", start("p"), end("p"))
	}
	holds(t, "&am</>p;", said("&am"), said("p;"))
	holds(t, "a<?b\">c\"", said("a"), said("c\""))
	holds(t, "a<!b '>c'", said("a"), said("c'"))
}

func TestWhatIsOnItsWayAtTheEnd(t *testing.T) { // P12.1
	for _, s := range []string{
		"<a", "<a ", "<a b", "<a b ", "<a b=", "<a b= ", "<a b=c", "<a b=c ", "<a b=\"", "<a b=\"c", "<a b=\"c>", "<a b='", "<a b='c", "<a b='c>d</a", "<a b='c'", "<a b=\"\"", "<a/", "<a /", "<a b/", "<a b /", "<a b=c /", "<a b=''/", "<a//", "<title", "<script ", "<a =", "<a ='",
		"</a", "</a ", "</a b", "</a b ", "</a b=", "</a b=c", "</a b=\"", "</a b=\">", "</a b='c'", "</a/", "</a /", "</ ", "</1", "</ a", "</<a",
		"<!", "<!-", "<!a", "<!-a", "<! --", "<?", "<?a", "<!- -",
	} {
		holds(t, s)
		holds(t, "x"+s, said("x"))
		holds(t, "<p>"+s, start("p"))
		holds(t, "x<"+s, said("x<"))
	}
}

func TestTags(t *testing.T) { // P12.1
	for _, name := range []string{"a", "z", "h1", "p", "br", "a1b2", "a-b", "a:b", "a_b", "a.b", "a<b", "a\"b'", "a=b", "aé", "a\x00", "a\xff", "a!--", "a&lt;", "plaintext", "xmp", "iframe", "noscript", "titles", "scrip", "svg:script", strings.Repeat("a", 40), strings.Repeat("ab", 500)} {
		for _, behind := range []string{"", " ", "\t", "\n", "\f", "\r", " \t\n\f\r "} {
			holds(t, "<"+name+behind+">", start(name))
			holds(t, "<"+name+behind+"/>", closed(name))
			holds(t, "</"+name+behind+">", end(name))
			holds(t, "</"+name+behind+"/>", end(name))
			holds(t, "x<"+name+behind+">y</"+name+behind+">z", said("x"), start(name), said("y"), end(name), said("z"))
		}
	}
	holds(t, "<p>a", start("p"), said("a"))
	holds(t, "<P><Br/></dIV><A1Z>", start("p"), closed("br"), end("div"), start("a1z"))
	holds(t, "<AÉ>", start("aÉ"))
	holds(t, "<a\v>", start("a\v"))
	holds(t, "<a\u00a0b>", start("a\u00a0b"))
	holds(t, "<p><p></p></p></b>", start("p"), start("p"), end("p"), end("p"), end("b"))
}

func TestSlashes(t *testing.T) { // P12.1
	holds(t, "<a/>", closed("a"))
	holds(t, "<a//>", closed("a"))
	holds(t, "<a / >", start("a"))
	holds(t, "<a/ />", closed("a"))
	holds(t, "<a/b>", start("a", "b", ""))
	holds(t, "<a/b/c>", start("a", "b", "", "c", ""))
	holds(t, "<a b/>", closed("a", "b", ""))
	holds(t, "<a b //>", closed("a", "b", ""))
	holds(t, "<a b / c>", start("a", "b", "", "c", ""))
	holds(t, "<a b=c/>", start("a", "b", "c/"))
	holds(t, "<a b=c />", closed("a", "b", "c"))
	holds(t, "<a b=/>", start("a", "b", "/"))
	holds(t, "<a b= / c>", start("a", "b", "/", "c", ""))
	holds(t, "<a b=\"c\"/>", closed("a", "b", "c"))
	holds(t, "<a b='c'/d>", start("a", "b", "c", "d", ""))
	holds(t, "<a/=b>", start("a", "=b", ""))
	holds(t, "<a b/=c>", start("a", "b", "", "=c", ""))
	holds(t, "<a b /=c>", start("a", "b", "", "=c", ""))
	holds(t, "<a/\"b\">", start("a", "\"b\"", ""))
	holds(t, "</a/b>", end("a"))
	holds(t, "</a//>", end("a"))
}

func TestAttributes(t *testing.T) { // P12.1
	holds(t, "<a b>", start("a", "b", ""))
	holds(t, "<a b c>", start("a", "b", "", "c", ""))
	holds(t, "<a\nb\tc\fd\re >", start("a", "b", "", "c", "", "d", "", "e", ""))
	holds(t, "<a b=>", start("a", "b", ""))
	holds(t, "<a b= >", start("a", "b", ""))
	holds(t, "<a b=\"\">", start("a", "b", ""))
	holds(t, "<a b=''>", start("a", "b", ""))
	holds(t, "<a b=c>", start("a", "b", "c"))
	holds(t, "<a b=\"c\">", start("a", "b", "c"))
	holds(t, "<a b='c'>", start("a", "b", "c"))
	holds(t, "<a b \t= \n c d>", start("a", "b", "c", "d", ""))
	holds(t, "<a b\f=\r\"c\">", start("a", "b", "c"))
	holds(t, "<a b=\"c\"d='e'f=g>", start("a", "b", "c", "d", "e", "f", "g"))
	holds(t, "<a b=c b=d B=e b>", start("a", "b", "c", "b", "d", "b", "e", "b", ""))
	holds(t, "<a HREF=X oNcLiCk='Y'>", start("a", "href", "X", "onclick", "Y"))
	holds(t, "<a É=B>", start("a", "É", "B"))
	holds(t, "<a b=\"it's > / = <p> \n&lt;\">", start("a", "b", "it's > / = <p> \n<"))
	holds(t, "<a b='\"> / &#39;&amp;lt;'>", start("a", "b", "\"> / '&lt;"))
	holds(t, "<a b=&quot;&gt;/c'd\"e=f<g&amp>h", start("a", "b", "\">/c'd\"e=f<g&amp"), said("h"))
	holds(t, "<a b==>", start("a", "b", "="))
	holds(t, "<a b=c=d>", start("a", "b", "c=d"))
	holds(t, "<a b=c\"d e\">", start("a", "b", "c\"d", "e\"", ""))
	holds(t, "<a &lt;=&lt;>", start("a", "&lt;", "<"))
	holds(t, "<a b=\x00\xff c=\"\x00\xff\">", start("a", "b", "\x00\xff", "c", "\x00\xff"))
	holds(t, "<a \x00=1 \xff=2>", start("a", "\x00", "1", "\xff", "2"))
	holds(t, "<a b=c\vd>", start("a", "b", "c\vd"))
	holds(t, "</a b=\"c\" d>e", end("a"), said("e"))
	holds(t, "</a b='>'>c", end("a"), said("c"))
}

func TestOddNamesOfAttributes(t *testing.T) { // P12.1
	holds(t, "<a =>", start("a", "=", ""))
	holds(t, "<a =b>", start("a", "=b", ""))
	holds(t, "<a ==>", start("a", "=", ""))
	holds(t, "<a ==b>", start("a", "=", "b"))
	holds(t, "<a ===>", start("a", "=", "="))
	holds(t, "<a = b>", start("a", "=", "", "b", ""))
	holds(t, "<a =b=c>", start("a", "=b", "c"))
	holds(t, "<a b=c =d>", start("a", "b", "c", "=d", ""))
	holds(t, "<a b=\"c\"=d>", start("a", "b", "c", "=d", ""))
	holds(t, "<a \"b\">", start("a", "\"b\"", ""))
	holds(t, "<a 'b=\"c\">", start("a", "'b", "c"))
	holds(t, "<a <b>c", start("a", "<b", ""), said("c"))
	holds(t, "<a b<c=d>", start("a", "b<c", "d"))
	holds(t, "<a b \"c\">", start("a", "b", "", "\"c\"", ""))
	holds(t, "<a b <c>", start("a", "b", "", "<c", ""))
	holds(t, "<a b C=d>", start("a", "b", "", "c", "d"))
	holds(t, "<a B\"'<C>", start("a", "b\"'<c", ""))
}

func TestComments(t *testing.T) { // P12.1
	for _, c := range []struct{ inner, want string }{
		{"", ""}, {"a", "a"}, {" a b ", " a b "}, {"-", "-"}, {"--", "--"}, {"---", "---"}, {"a-", "a-"}, {"a--", "a--"}, {"a-b", "a-b"}, {"a--b", "a--b"}, {"a---b", "a---b"}, {">", ">"}, {"->", "->"}, {"- ->", "- ->"}, {"-- >", "-- >"}, {"--!>", "--!>"}, {"<!--", "<!--"}, {"<p>&lt;</p>", "<p>&lt;</p>"}, {"A\"'", "A\"'"}, {"\x00\xff\x80", "\x00\xff\x80"},
	} {
		holds(t, "<!--"+c.inner+"-->", remark(c.want))
		holds(t, "a<!--"+c.inner+"-->b-->", said("a"), remark(c.want), said("b-->"))
		holds(t, "a<!--"+c.inner, said("a"), remark(c.want))
		holds(t, "a<!--"+c.inner+"--", said("a"), remark(c.want+"--"))
		holds(t, "a<!--"+c.inner+"--<p>", said("a"), remark(c.want+"--<p>"))
	}
	holds(t, "<!--", remark(""))
	holds(t, "<!-->", remark(">"))
	holds(t, "<!--->", remark("->"))
	holds(t, "<!-->a-->b", remark(">a"), said("b"))
	holds(t, "<!--->a-->b", remark("->a"), said("b"))
	holds(t, "<!---->", remark(""))
	holds(t, "<!----->", remark("-"))
	holds(t, "<!--a--><!--b--><!--c", remark("a"), remark("b"), remark("c"))
	holds(t, "<!--a--->b", remark("a-"), said("b"))
}

func TestTextWithReferences(t *testing.T) { // P12.1
	for _, name := range []string{"title", "textarea"} {
		for _, begin := range []string{"<" + name + ">", "<" + strings.ToUpper(name) + " >"} {
			holds(t, begin+"a&lt;<b></"+name+">c", start(name), said("a<<b>"), end(name), said("c"))
		}
		holds(t, "<"+name+"/>&amp;</"+name+">", closed(name), said("&"), end(name))
		holds(t, "<"+name+" a='&lt;'>&amp;", start(name, "a", "<"), said("&"))
		holdRaw(t, name, func(s string) string { return refs.Decode(s) })
	}
}

func TestStylesAndScripts(t *testing.T) { // P12.1
	for _, name := range []string{"style", "script"} {
		for _, begin := range []string{"<" + name + ">", "<" + strings.ToUpper(name) + "\n>"} {
			holds(t, begin+"a&lt;<b></"+name+">c&lt;", start(name), said("a&lt;<b>"), end(name), said("c<"))
		}
		holds(t, "<"+name+"/>&amp;</"+name+">&amp;", closed(name), said("&amp;"), end(name), said("&"))
		holds(t, "<"+name+" a='&lt;'>&amp;", start(name, "a", "<"), said("&amp;"))
		holdRaw(t, name, func(s string) string { return s })
	}
}

// holdRaw holds the text of the element name, which is read by how, at each way in and out.
func holdRaw(t *testing.T, name string, how func(s string) string) {
	t.Helper()
	begin := "<" + name + ">"
	mixed := strings.ToUpper(name[:2]) + name[2:]
	for _, s := range []string{"a", "<", "</", "</>", "</p>", "<p>", "<!--", "<!---->", "</" + name, "</" + name + "x>", "</" + name + "1", "</" + name + "\v>", "</" + name + "\x00>", "</" + name + "-", "</" + name + "&gt;", "</ " + name + ">", "< /" + name + ">", "<" + name + ">", "<" + name + "/>", "</" + name[1:] + ">", "</" + name[:3] + ">", name + ">", "&lt;/" + name + ">", "&#65;", "\x00\xff\x80é", "<?", "</" + mixed, "<//" + name + ">", "</<" + name + ">"} {
		holds(t, begin+s, start(name), said(how(s)))
		holds(t, begin+s+"<", start(name), said(how(s+"<")))
		holds(t, begin+s+"</"+name+">", start(name), said(how(s)), end(name))
		holds(t, begin+s+"</"+mixed+">b", start(name), said(how(s)), end(name), said("b"))
		holds(t, begin+s+"</"+name+">b</"+name+">", start(name), said(how(s)), end(name), said("b"), end(name))
	}
	for _, behind := range []string{" ", "\t", "\n", "\f", "\r", "/"} {
		holds(t, begin+"a</"+name+behind+">b", start(name), said("a"), end(name), said("b"))
		holds(t, begin+"a</"+mixed+behind+"c='>'>b", start(name), said("a"), end(name), said("b"))
		holds(t, begin+"a</"+name+behind, start(name), said("a"))
		holds(t, begin+"a</"+name+behind+"b", start(name), said("a"))
		holds(t, begin+"</"+name+behind+">", start(name), end(name))
	}
	holds(t, begin, start(name))
	holds(t, begin+"</"+name+">", start(name), end(name))
	holds(t, begin+"</"+name+">"+begin+"</"+name+">", start(name), end(name), start(name), end(name))
	holds(t, "</"+name+"><p>", end(name), start("p"))
	holds(t, "x"+begin+"y", said("x"), start(name), said("y"))
}

func TestOtherElementsHaveMarkup(t *testing.T) { // P12.1
	for _, name := range []string{"p", "plaintext", "xmp", "iframe", "noembed", "noframes", "noscript", "titles", "titl", "styles", "scripts", "text", "svg", "pre"} {
		holds(t, "<"+name+">a&lt;<b></p>", start(name), said("a<"), start("b"), end("p"))
	}
	holds(t, "<p title><b>", start("p", "title", ""), start("b"))
	holds(t, "</script><b>", end("script"), start("b"))
}

func TestEveryOctetInEachState(t *testing.T) { // P12.1, P1
	for _, s := range inEachState() {
		for c := range 256 {
			for _, behind := range []string{"", ">", "-", " b", "=c>", "\"'>d", "\"/>", "-->e", "title>", "</title>f", "</script>f", "</STYLE/>f", "amp;"} {
				in := s + string([]byte{byte(c)}) + behind
				holds(t, in, read(in)...)
			}
		}
		if t.Failed() {
			return
		}
	}
}

func TestSmallTexts(t *testing.T) { // P12.1, P1
	for s := range smallTexts(pieces(), 5) {
		if got, err := Tokens(s); err != api.OK || !areSame(got, read(s)) {
			t.Fatalf("P12.1: Tokens(%q) is %+v, %d, not %+v", s, got, err, read(s))
		}
	}
	for s := range smallTexts(pieces(), 4) {
		in := "<a " + s
		if got, err := Tokens(in); err != api.OK || !areSame(got, read(in)) {
			t.Fatalf("P12.1: Tokens(%q) is %+v, %d, not %+v", in, got, err, read(in))
		}
	}
	for s := range smallTexts(rawPieces(), 4) {
		in := "<" + s
		if got, err := Tokens(in); err != api.OK || !areSame(got, read(in)) {
			t.Fatalf("P12.1: Tokens(%q) is %+v, %d, not %+v", in, got, err, read(in))
		}
	}
	for _, s := range oddTexts() {
		holds(t, s, read(s)...)
	}
}

func TestTooLongTexts(t *testing.T) { // P12.1, P4
	long := strings.Repeat("a", api.MaxOut)
	holds(t, long, said(long))
	for _, s := range []string{long + "a", long + "<", "<" + long, long + long, "</>" + long, "<" + long[1:] + ">", strings.Repeat("<p>", api.MaxOut/3+1), strings.Repeat("a<", api.MaxOut)} {
		if got, err := Tokens(s); got != nil || err != api.ErrLong {
			t.Errorf("P12.1: Tokens of %d octets is %d tokens, %d, not %d", len(s), len(got), err, api.ErrLong)
		}
	}
	holds(t, "<"+long[2:]+">", start(long[2:]))
	holds(t, "<a "+long[4:]+">", start("a", long[4:], ""))
	holds(t, "<a b="+long[6:]+">", start("a", "b", long[6:]))
	holds(t, "<a b=\""+long[8:]+"\">", start("a", "b", long[8:]))
	holds(t, "<!--"+long[7:]+"-->", remark(long[7:]))
	holds(t, "<script>"+long[8:], start("script"), said(long[8:]))
	holds(t, "<?"+long[2:])
	lots := strings.Repeat("<", api.MaxOut)
	holds(t, lots, said(lots))
	holds(t, "<title>"+lots[7:], start("title"), said(lots[7:]))
	ends := strings.Repeat("</style", api.MaxOut/7-1)
	holds(t, "<style>"+ends, start("style"), said(ends))
	amps := strings.Repeat("&", api.MaxOut)
	holds(t, amps, said(amps))
}

func TestTooManyTokens(t *testing.T) { // P12.1, P4
	for _, c := range []struct {
		piece string
		one   api.Token
	}{{"<p>", start("p")}, {"</p>", end("p")}, {"<!---->", remark("")}, {"<a/>", closed("a")}, {"a</>", said("a")}} {
		most := strings.Repeat(c.piece, api.MaxTags)
		got, err := Tokens(most)
		if len(got) != api.MaxTags || err != api.OK || !isSame(got[0], c.one) || !isSame(got[len(got)-1], c.one) {
			t.Errorf("P12.1: %d of %q are %d tokens, %d", api.MaxTags, c.piece, len(got), err)
		}
		for _, nothing := range []string{"</>", "<a", "<?x>", "</b c", "<!"} {
			if got, err := Tokens(most + nothing); len(got) != api.MaxTags || err != api.OK {
				t.Errorf("P12.1: %d of %q and %q are %d tokens, %d", api.MaxTags, c.piece, nothing, len(got), err)
			}
		}
		for _, more := range []string{"<p>", "</p>", "<!--", "<br/>", "a", "<", "</", " <title>a</title>", "< b"} {
			if got, err := Tokens(most + more); got != nil || err != api.ErrCount {
				t.Errorf("P12.1: %d of %q and %q are %d tokens, %d, not %d", api.MaxTags, c.piece, more, len(got), err, api.ErrCount)
			}
		}
	}
	before := strings.Repeat("<p>", api.MaxTags-1)
	if got, err := Tokens(before + "<script>"); len(got) != api.MaxTags || err != api.OK {
		t.Errorf("P12.1: a script at the end of as many tokens as may be is refused: %d", err)
	}
	if got, err := Tokens(before + "<script>x"); got != nil || err != api.ErrCount {
		t.Errorf("P12.1: a script's text is told behind as many tokens as may be: %d, %d", len(got), err)
	}
	if got, err := Tokens(before + "<script></script>"); got != nil || err != api.ErrCount {
		t.Errorf("P12.1: a script's end is told behind as many tokens as may be: %d, %d", len(got), err)
	}
	if got, err := Tokens(strings.Repeat("<p>", api.MaxTags+1) + strings.Repeat("a", api.MaxOut)); got != nil || err != api.ErrLong {
		t.Errorf("P4: a text that is too long and has too many tokens is %d, not %d", err, api.ErrLong)
	}
}

func TestSame(t *testing.T) { // P12.1
	one := start("a", "b", "c", "d", "e")
	ones := []api.Token{
		{}, one, closed("a", "b", "c", "d", "e"), start("a"), start("b"), start("A"), end("a"), closed("a"), {Kind: 1}, {Kind: 2}, said("a"), said("b"), said("A"), said(""), remark("a"), remark(""), {Kind: 5, Text: "a"}, {Kind: -1, Text: "a"}, {Text: "a"}, {Name: "a"}, {Closed: true},
		{Kind: 1, Name: "a", Text: "x"}, {Kind: 2, Name: "a", Closed: true}, {Kind: 3, Text: "a", Name: "a"}, {Kind: 2, Name: "a", Attrs: pairs([]string{"b", "c"})}, {Kind: 3, Text: "a", Attrs: pairs([]string{"b", "c"})},
		start("a", "b", "c"), start("a", "d", "e"), start("a", "d", "e", "b", "c"), start("a", "b", "c", "d", "x"), start("a", "b", "x", "d", "e"), start("a", "b", "c", "x", "e"), start("a", "x", "c", "d", "e"), start("a", "b", "c", "d", "e", "d", "e"), start("a", "b", "c", "d", "e", "", ""), start("a", "b", "e", "d", "c"), start("a", "", ""), start("a", "c", "b", "e", "d"), start("ab", "c", ""), start("a", "bc", ""), start("a", "b", ""), start("a", "", "b"),
	}
	for i, a := range ones {
		for j, b := range copied(ones) {
			if got := Same(a, b); got != (i == j) {
				t.Errorf("P12.1: Same(%+v, %+v) is %v", a, b, got)
			}
		}
	}
	for _, kind := range []int{0, 1, 2, 3, 4, 9} {
		if a, b := (api.Token{Kind: kind, Attrs: []api.Attr{}}), (api.Token{Kind: kind}); !Same(a, b) || !Same(b, a) {
			t.Errorf("P1: nil and empty attributes are two in kind %d", kind)
		}
	}
}

func TestText(t *testing.T) { // P12.1
	for _, c := range []struct {
		l    []api.Token
		want string
	}{
		{nil, ""},
		{[]api.Token{}, ""},
		{[]api.Token{said("a")}, "a"},
		{[]api.Token{said("")}, ""},
		{[]api.Token{said("a"), said("b"), said("c")}, "abc"},
		{[]api.Token{said("c"), said(""), said("a")}, "ca"},
		{[]api.Token{said("a"), start("p", "x", "y"), said(" <b>"), end("p"), remark("z"), said("&\x00\xff")}, "a <b>&\x00\xff"},
		{[]api.Token{start("p"), end("p"), remark("a")}, ""},
		{[]api.Token{{Kind: 1, Text: "a"}, {Kind: 2, Text: "b"}, {Kind: 4, Text: "c"}, {Kind: 0, Text: "d"}, {Kind: -3, Text: "e"}, {Kind: 5, Text: "f"}, {Kind: 1 << 40, Text: "g"}}, ""},
		{[]api.Token{{Kind: 3, Name: "a", Text: "b", Closed: true, Attrs: pairs([]string{"c", "d"})}}, "b"},
	} {
		if got := Text(c.l...); got != c.want {
			t.Errorf("P12.1: Text(%+v) is %q, not %q", c.l, got, c.want)
		}
	}
	if got := Text(); got != "" {
		t.Errorf("P12.1: Text of no tokens is %q", got)
	}
	many := make([]api.Token, 10000)
	for i := range many {
		many[i] = said("ab")
	}
	if got := Text(many...); got != strings.Repeat("ab", 10000) {
		t.Errorf("P12.1: Text of many texts has %d octets", len(got))
	}
}
