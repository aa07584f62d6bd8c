package tokens

import (
	"math"
	"strings"
	"testing"

	"muslin/api"
	"muslin/refs"
	"muslin/utf"
)

// checks tells of Check(token) whether it is want.
func checks(t *testing.T, want api.Errno, tokens ...api.Token) {
	t.Helper()
	for _, token := range tokens {
		if got := Check(token); got != want {
			t.Errorf("P12.2: Check(%+v) is %d, not %d", token, got, want)
		}
	}
}

func TestCheckOfGoodTokens(t *testing.T) { // P12.2
	checks(t, api.OK, goodTokens()...)
	checks(t, api.OK, start("title"), start("textarea"), start("style"), closed("script"), end("style"), end("textarea")) // Write's to refuse
	checks(t, api.OK, api.Token{Kind: 1, Name: "p", Attrs: []api.Attr{}}, api.Token{Kind: 2, Name: "p", Attrs: []api.Attr{}}, api.Token{Kind: 3, Text: "a", Attrs: []api.Attr{}}, api.Token{Kind: 4, Attrs: []api.Attr{}})
	checks(t, api.OK, said(strings.Repeat("a", 2*api.MaxOut)), remark(strings.Repeat("a", 2*api.MaxOut)), start("p", strings.Repeat("a", 2*api.MaxOut), strings.Repeat("a", 2*api.MaxOut)))
}

func TestCheckOfKinds(t *testing.T) { // P12.2, P4
	for _, kind := range []int{0, 5, -1, 6, 11, 1<<32 + 1, -1 << 32, math.MaxInt, math.MinInt} {
		checks(t, api.ErrRange, api.Token{Kind: kind}, api.Token{Kind: kind, Name: "p"}, api.Token{Kind: kind, Text: "a"})
		checks(t, api.ErrRange, api.Token{Kind: kind, Name: "P", Text: "\x00", Attrs: pairs([]string{"", "\xff"}), Closed: true})
	}
}

func TestCheckOfNames(t *testing.T) { // P12.2
	long := strings.Repeat("a", api.MaxName)
	for _, name := range []string{"a", "z", "h1", "a0", "a9", "z0z", "script", long, long[1:] + "9"} {
		checks(t, api.OK, start(name), end(name), closed(name, "b", "c"))
	}
	for _, name := range []string{"", "1", "0a", "9", "_", "_a", "a_", "A", "aB", "P", "a-b", "a:b", "a ", " a", "a b", "a/", "/a", "a>", "<a", "a=", "é", "aé", "a\x00", "\xff", "a\xff", "a`", "a{", "a\n", "a@", "a[", long + "a", long + long, strings.Repeat("1", api.MaxName)} {
		checks(t, api.ErrState, start(name), end(name), closed(name, "b", "c"))
	}
	for c := range 256 {
		one := string([]byte{byte(c)})
		good := c >= 'a' && c <= 'z'
		checks(t, oneOf(good, api.OK, api.ErrState), start(one), end(one))
		good = good || c >= '0' && c <= '9'
		checks(t, oneOf(good, api.OK, api.ErrState), start("a"+one), end("b"+one+"c"))
		good = good || c == '-'
		checks(t, oneOf(good, api.OK, api.ErrState), start("a", one, ""), start("a", "b", "c", "d"+one+"e", ""))
	}
}

func oneOf(good bool, a api.Errno, b api.Errno) api.Errno {
	if good {
		return a
	}
	return b
}

func TestCheckOfFieldsThatAreNotTheirs(t *testing.T) { // P12.2
	attrs := pairs([]string{"a", "b"})
	checks(t, api.ErrState,
		api.Token{Kind: 1, Name: "a", Text: "b"}, api.Token{Kind: 2, Name: "a", Text: "b"}, api.Token{Kind: 1, Name: "a", Text: " ", Attrs: attrs, Closed: true},
		api.Token{Kind: 3, Text: "a", Name: "a"}, api.Token{Kind: 4, Text: "a", Name: "a"}, api.Token{Kind: 4, Name: "p"},
		api.Token{Kind: 2, Name: "a", Attrs: attrs}, api.Token{Kind: 3, Text: "a", Attrs: attrs}, api.Token{Kind: 4, Text: "a", Attrs: attrs}, api.Token{Kind: 2, Name: "a", Attrs: make([]api.Attr, 1)},
		api.Token{Kind: 2, Name: "a", Closed: true}, api.Token{Kind: 3, Text: "a", Closed: true}, api.Token{Kind: 4, Text: "a", Closed: true},
		api.Token{Kind: 1}, api.Token{Kind: 2}, api.Token{Kind: 3}, api.Token{Kind: 1, Text: "a"}, api.Token{Kind: 2, Text: "a"}, api.Token{Kind: 3, Name: "a"},
	)
}

func TestCheckOfAttributes(t *testing.T) { // P12.2
	for _, name := range []string{"a", "href", "data-x-1", "-", "--", "0", "9a", "a-", "-a", strings.Repeat("a", api.MaxName), strings.Repeat("a", api.MaxName+1), strings.Repeat("-1a", 1000)} {
		checks(t, api.OK, start("p", name, ""), start("p", name, "a", name, "b"), closed("p", "x", "y", name, name))
	}
	for _, name := range []string{"", "A", "aB", "onClick", "a_b", "_", "a:b", "xml:lang", "a b", " a", "a ", "a=", "=", "a/", "a>", "a\"", "a'", "<a", "é", "a\x00", "\xff"} {
		checks(t, api.ErrState, start("p", name, ""), start("p", "a", "b", name, "c"), closed("p", name, "a", "b", ""))
	}
	for _, value := range []string{"", " ", "a", "é", "\ufffd", "<>\"'&+`=", "&amp;", "\x01\x7f\n", "😀", "javascript:x"} {
		checks(t, api.OK, start("p", "a", value), closed("p", "b", "", "a", value))
	}
	for _, value := range []string{"\x00", "a\x00", "\xff", "\x80a", "a\xc3", "é\xc3é", "\xe2\x82", "\xed\xa0\x80", "\xc0\x80", "\xf4\x90\x80\x80"} {
		checks(t, api.ErrState, start("p", "a", value), closed("p", "b", "", "a", value), start("p", "a", value, "b", "c"))
	}
}

func TestCheckOfTexts(t *testing.T) { // P12.2
	for _, s := range []string{"a", " ", "<", "&lt;", "<p>", "é", "\ufffd", "\x01\x7f", "\u2028😀", "-->", "-", ">"} {
		checks(t, api.OK, said(s))
	}
	for _, s := range []string{"", "\x00", "a\x00b", "\xff", "\x80", "a\xc3", "\xc3é", "\xe2\x82", "\xed\xa0\x80", "\xc0\xbc", "\xf4\x90\x80\x80"} {
		checks(t, api.ErrState, said(s))
	}
	for c := range 256 {
		one := string([]byte{byte(c)})
		checks(t, oneOf(c > 0 && c < 128, api.OK, api.ErrState), said(one), said("a"+one+"b"), start("p", "a", one))
	}
}

func TestCheckOfComments(t *testing.T) { // P12.2
	for _, s := range []string{"", "a", " ", " > ", " - ", "a-b", "a--b", "a---b", "a>", " >", " ->", "a->b", "a-- >", "a--!>", " --a", "<!--a", "<p>", "&", "é", "!", "<", "\x00", "\xff", "a\x00b"} {
		checks(t, api.OK, remark(s))
	}
	for _, s := range []string{"-", "--", "---", ">", "->", "-->", "a-", "a--", " -", "-a", "- ", "--a", ">a", "> ", ">>", "a-->", "a-->b", "a--->b", "-->a", " --> ", "a-->b-->c", "<!---->", "é-"} {
		checks(t, api.ErrState, remark(s))
	}
}

// writes tells of Write(l...) whether it is want.
func writes(t *testing.T, want string, l ...api.Token) {
	t.Helper()
	if got, err := Write(l...); got != want || err != api.OK {
		t.Errorf("P12.2: Write(%s) is %.300q, %d, not %.300q", shown(l), got, err, want)
	}
}

// refuses tells of Write(l...) whether it is refused by want.
func refuses(t *testing.T, want api.Errno, l ...api.Token) {
	t.Helper()
	if got, err := Write(l...); got != "" || err != want {
		t.Errorf("P12.2: Write(%s) is %.300q, %d, not %d", shown(l), got, err, want)
	}
}

func TestWrite(t *testing.T) { // P12.2
	writes(t, "")
	writes(t, "<p>", start("p"))
	writes(t, "<p/>", closed("p"))
	writes(t, "</p>", end("p"))
	writes(t, "<a href=\"x\">", start("a", "href", "x"))
	writes(t, "<a b=\"c\" d=\"\" b=\"e f\"/>", closed("a", "b", "c", "d", "", "b", "e f"))
	writes(t, "<a b=\"&lt;&gt;&amp;&#34;&#39;&#43;/=`\n\">", start("a", "b", "<>&\"'+/=`\n"))
	writes(t, "a &amp;amp; &lt;b&gt; &#34;&#39;&#43; é", said("a &amp; <b> \"'+ é"))
	writes(t, "<!---->", remark(""))
	writes(t, "<!-- a & <b> \"\x00\xff-->", remark(" a & <b> \"\x00\xff"))
	writes(t, "<p>a</p>", start("p"), said("a"), end("p"))
	writes(t, "a<br/>b<!--c-->d</p>e", said("a"), closed("br"), said("b"), remark("c"), said("d"), end("p"), said("e"))
	writes(t, "<p><p></b></b><!--a--><!--b-->", start("p"), start("p"), end("b"), end("b"), remark("a"), remark("b"))
	writes(t, "<plaintext><xmp><iframe><noembed><noframes><noscript>", start("plaintext"), start("xmp"), start("iframe"), start("noembed"), start("noframes"), start("noscript"))
	writes(t, "</title></textarea></style></script>", end("title"), end("textarea"), end("style"), end("script"))
	writes(t, "<titles><scripts/>", start("titles"), closed("scripts"))
	for c := 1; c < 0x10ffff; c = c*5/4 + 1 {
		if s, err := utf.Encode(c); err == api.OK {
			writes(t, refs.Escape(s)+"<p a=\""+refs.Escape(s)+"\">", said(s), start("p", "a", s))
		}
	}
}

func TestWriteOfWhatCheckRefuses(t *testing.T) { // P12.2, P4
	state, none := start("P"), api.Token{Kind: 9}
	refuses(t, api.ErrState, state)
	refuses(t, api.ErrRange, none)
	refuses(t, api.ErrState, state, none)
	refuses(t, api.ErrRange, none, state)
	refuses(t, api.ErrState, start("p"), state, none)
	refuses(t, api.ErrRange, start("p"), said("a"), none, state)
	refuses(t, api.ErrRange, start("p"), end("p"), none)
	refuses(t, api.ErrState, said(""))
	refuses(t, api.ErrState, remark("a-"))
	refuses(t, api.ErrRange, said("a"), said("b"), none) // Check's error goes ahead of what only Write refuses
	refuses(t, api.ErrRange, start("script"), none)
	refuses(t, api.ErrRange, said(strings.Repeat("a", api.MaxOut+1)), none)
	refuses(t, api.ErrState, said(strings.Repeat("a", api.MaxOut+1)), state)
}

func TestWriteOfWhatWouldBeReadOtherwise(t *testing.T) { // P12.2
	refuses(t, api.ErrState, said("a"), said("b"))
	refuses(t, api.ErrState, start("p"), said("a"), said("b"), end("p"))
	refuses(t, api.ErrState, said("a"), start("p"), said("b"), said("c"))
	for _, between := range []api.Token{start("p"), closed("br"), end("p"), remark("")} {
		if _, err := Write(said("a"), between, said("b")); err != api.OK {
			t.Errorf("P12.2: texts with %+v between are refused: %d", between, err)
		}
	}
	for _, name := range []string{"title", "textarea", "style", "script"} {
		refuses(t, api.ErrState, start(name))
		refuses(t, api.ErrState, closed(name, "a", "b"))
		refuses(t, api.ErrState, start("p"), said("a"), start(name), said("b"), end(name))
	}
}

func TestWriteOfTooMuch(t *testing.T) { // P12.2, P4
	long := strings.Repeat("a", api.MaxOut)
	writes(t, long, said(long))
	writes(t, "<p>"+long[3:], start("p"), said(long[3:]))
	writes(t, "<!--"+long[7:]+"-->", remark(long[7:]))
	writes(t, "<a b=\""+long[8:]+"\">", start("a", "b", long[8:]))
	writes(t, "<a "+long[7:]+"=\"\">", start("a", long[7:], ""))
	writes(t, "<a b=\""+long[9:]+"\"/>", closed("a", "b", long[9:]))
	writes(t, strings.Repeat("&lt;", api.MaxOut/4), said(strings.Repeat("<", api.MaxOut/4)))
	writes(t, long[4:]+"</a>", said(long[4:]), end("a"))
	refuses(t, api.ErrLong, said(long+"a"))
	refuses(t, api.ErrLong, start("p"), said(long[2:]))
	refuses(t, api.ErrLong, remark(long[6:]))
	refuses(t, api.ErrLong, start("a", "b", long[7:]))
	refuses(t, api.ErrLong, start("a", long[6:], ""))
	refuses(t, api.ErrLong, closed("a", "b", long[8:]))
	refuses(t, api.ErrLong, said(strings.Repeat("<", api.MaxOut/4)+"a"))
	refuses(t, api.ErrLong, said(long[3:]), end("a"))
	refuses(t, api.ErrLong, said(long), end("a"))
	refuses(t, api.ErrLong, said(strings.Repeat(long, 20)))

	refuses(t, api.ErrLong, said(long+"a"), start("script"))         // token by token, the first
	refuses(t, api.ErrLong, said(long), start("p"), start("script")) // so far
	refuses(t, api.ErrState, start("script"), said(long+"a"))        //
	refuses(t, api.ErrState, said("a"), said(long))                  // of one token both
	refuses(t, api.ErrState, start("script", "a", long))             //
	refuses(t, api.ErrState, said(long), said("a"), said(long+long)) //
}

func TestWriteOfMoreThanMaxTags(t *testing.T) { // P12.2
	l := make([]api.Token, api.MaxTags+1)
	for i := range l {
		l[i] = start("p")
	}
	writes(t, strings.Repeat("<p>", len(l)), l...) // Write names no ErrCount
	for len(l) <= api.MaxOut {
		l = append(l, l...)
	}
	refuses(t, api.ErrLong, l...)
}
