package refs

import (
	"strings"
	"testing"

	"muslin/utf"
)

func TestEscape(t *testing.T) { // P6.1
	for _, c := range []struct{ s, want string }{
		{"", ""},
		{"a", "a"},
		{"&", "&amp;"},
		{"<", "&lt;"},
		{">", "&gt;"},
		{"\"", "&#34;"},
		{"'", "&#39;"},
		{"+", "&#43;"},
		{"&<>\"'+", "&amp;&lt;&gt;&#34;&#39;&#43;"},
		{"<b a=\"c\">'d' + e</b>", "&lt;b a=&#34;c&#34;&gt;&#39;d&#39; &#43; e&lt;/b&gt;"},
		{"&amp;", "&amp;amp;"},
		{"&#34;", "&amp;#34;"},
		{"&&", "&amp;&amp;"},
		{";#x`=/ \t\n\r\x01\x7f", ";#x`=/ \t\n\r\x01\x7f"},
		{"é€😀", "é€😀"},
		{"é<€>😀&", "é&lt;€&gt;😀&amp;"},
		{"\u00a0\u2028\ufeff\uffff\U0010ffff", "\u00a0\u2028\ufeff\uffff\U0010ffff"},
		{"＜＆＋", "＜＆＋"},
		{"\x00", putFor},
		{"a\x00<\x00", "a" + putFor + "&lt;" + putFor},
		{"\xff", putFor},
		{"\x80<\xbf", putFor + "&lt;" + putFor},
		{"\xc3<", putFor + "&lt;"},
		{"\xe2\x82&", putFor + putFor + "&amp;"},
		{"\xf0\x9f\x98\"", putFor + putFor + putFor + "&#34;"},
		{"\xc0\xbc", putFor + putFor},
		{"\xed\xa0\x80", putFor + putFor + putFor},
		{"&\x00#\xff;", "&amp;" + putFor + "#" + putFor + ";"},
	} {
		if got := Escape(c.s); got != c.want {
			t.Errorf("P6.1: Escape(%q) is %q, not %q", c.s, got, c.want)
		}
	}
}

func TestEscapeOfOctets(t *testing.T) { // P6.1
	references := map[byte]string{'&': "&amp;", '<': "&lt;", '>': "&gt;", '"': "&#34;", '\'': "&#39;", '+': "&#43;", 0: putFor}
	for c := range 128 {
		s := string([]byte{byte(c)})
		want, ok := references[byte(c)]
		if !ok {
			want = s
		}
		for _, around := range []string{"", "a", "é", "&", putFor} {
			if got, ends := Escape(around+s+around), Escape(around); got != ends+want+ends {
				t.Errorf("P6.1: Escape(%q) is %q", around+s+around, got)
			}
		}
	}
	for a := range 256 {
		for b := range 256 {
			s := string([]byte{byte(a), byte(b)})
			if got, want := Escape(s), escapedText(s); got != want {
				t.Fatalf("P6.1: Escape(%q) is %q, not %q", s, got, want)
			}
		}
	}
}

func TestEscapeOfEveryCharacter(t *testing.T) { // P6.1
	for c := range 0x110000 {
		s, _ := utf.Encode(c)
		if got, want := Escape(s), escapedText(s); got != want {
			t.Fatalf("P6.1: Escape of the character %#x is %q, not %q", c, got, want)
		}
	}
}

func TestEscapeOfOddTexts(t *testing.T) { // P6.1
	for _, s := range oddTexts() {
		if got, want := Escape(s), escapedText(s); got != want {
			t.Errorf("P6.1: Escape(%.80q) is %.80q, not %.80q", s, got, want)
		}
	}
}

func TestUnfinished(t *testing.T) { // P6.2
	for _, s := range []string{
		"&", "&a", "&am", "&amp", "&ap", "&apo", "&apos", "&l", "&lt", "&g", "&gt", "&q", "&qu", "&quo", "&quot",
		"&#", "&#0", "&#6", "&#65", "&#123456", "&#1234567", "&#0000000", "&#9999999",
		"&#x", "&#X", "&#x0", "&#xa", "&#XA", "&#xF", "&#x41", "&#x123456", "&#x1234567", "&#XABCDEFa", "&#xfffffff",
	} {
		if !Unfinished(s) {
			t.Errorf("P6.2: not Unfinished(%q)", s)
		}
	}
	for _, s := range []string{
		"", "a", "amp", "#", "#65", ";", " ", "\x00", "\xff", " &", "a&", "a&amp", "x=1&lt", "&&", "&amp&", "&&amp", "& ", "& amp", "&A", "&AMP", "&Am", "&aM", "&amP", "&LT", "&Gt", "&aMp", "&quoT",
		"&b", "&m", "&t", "&x", "&x41", "&0", "&65", "&amps", "&ampp", "&ltt", "&lta", "&gte", "&quote", "&aposs", "&aa", "&amo", "&apis", "&quat",
		"&amp;", "&lt;", "&gt;", "&quot;", "&apos;", "&#65;", "&#x41;", "&#X41;", "&#0;", "&;", "&#;", "&#x;", "&amp;a", "&amp;&",
		"&#a", "&#6a", "&# ", "&#-", "&#-1", "&#+1", "&#xx", "&#Xx", "&#xg", "&#x4g", "&#x-1", "&#6x", "&#0x", "&##", "&#&", "&#x#", "&#1 ", "&#.5", "&#1.",
		"&#12345678", "&#00000000", "&#x12345678", "&#X00000000", "&#x" + strings.Repeat("0", 1000), "&#" + strings.Repeat("0", 1000), "&\x00", "&\xff", "&é", "&am\x00", "&#٣", "&аmp", "＆amp",
	} {
		if Unfinished(s) {
			t.Errorf("P6.2: Unfinished(%q)", s)
		}
	}
}

func TestUnfinishedOfBeginnings(t *testing.T) { // P6.2
	for _, ref := range allRefs() {
		if Unfinished(ref) {
			t.Errorf("P6.2: Unfinished(%q)", ref)
		}
		for size := range len(ref) {
			s := ref[:size]
			if got := Unfinished(s); got != (size > 0) {
				t.Errorf("P6.2: Unfinished(%q) is %v", s, got)
			}
			for c := range 256 {
				more := s + string([]byte{byte(c)})
				if got, want := Unfinished(more), onItsWay(more); got != want {
					t.Fatalf("P6.2: Unfinished(%q) is %v", more, got)
				}
			}
			for _, other := range []string{"z", " ", ";", "&amp;", "\x00", "\xff", "é"} {
				if Unfinished(other+s) || Unfinished(s+other) {
					t.Fatalf("P6.2: Unfinished(%q), or the other way round", other+s)
				}
			}
		}
	}
}

func TestUnfinishedOfSmallTexts(t *testing.T) { // P6.2
	for s := range smallTexts("&#;xX019aAfFgltmpo ", 4) {
		for _, whole := range []string{s, "&" + s} {
			if got, want := Unfinished(whole), onItsWay(whole); got != want {
				t.Fatalf("P6.2: Unfinished(%q) is %v", whole, got)
			}
		}
	}
	for _, s := range oddTexts() {
		if got, want := Unfinished(s), onItsWay(s); got != want {
			t.Errorf("P6.2: Unfinished(%.80q) is %v", s, got)
		}
	}
}

func TestClean(t *testing.T) { // P6.2
	for c := range 256 {
		one := string([]byte{byte(c)})
		want := c != 0x3c && c != 0x3e && c != 0x22 && c != 0x27
		for _, s := range []string{one, one + "a", "a" + one, "a" + one + "b", one + one, "é" + one + "€", "\xff" + one + "\x00", strings.Repeat("x", 1000) + one + "&"} {
			if got := Clean(s); got != want {
				t.Errorf("P6.2: Clean(%.40q) is %v", s, got)
			}
		}
	}
	for _, s := range []string{"", "a", "&", "&lt;", "&amp;&gt;&quot;&#39;&apos;", "+`=/;", "＜＞", "‘’“”", "\xc0\xbc", "\u223c", "\u3c3e", "\u2227", strings.Repeat("a&", 1000)} {
		if !Clean(s) {
			t.Errorf("P6.2: not Clean(%.40q)", s)
		}
	}
	for _, s := range []string{"<b>", "a<b", "a>b", "say \"a\"", "it's", "&lt;<", "<&lt;", "'\"", "é'", "\x00\"", "\xff>"} {
		if Clean(s) {
			t.Errorf("P6.2: Clean(%q)", s)
		}
	}
}
