package refs

import (
	"fmt"
	"strings"
	"testing"
)

// behind are texts that may stand behind a reference, and change nothing of it.
func behind() []string {
	return []string{"", ";", "a", " ", "&", "#", "0", "x", "amp;", "&amp;", "&lt", "\x00", "\xff", "é", strings.Repeat("&amp;", 100)}
}

func TestOne(t *testing.T) { // P6.1
	for _, c := range []struct{ s, want string }{
		{"&amp;", "&"},
		{"&lt;", "<"},
		{"&gt;", ">"},
		{"&quot;", "\""},
		{"&apos;", "'"},
		{"&#38;", "&"},
		{"&#60;", "<"},
		{"&#62;", ">"},
		{"&#34;", "\""},
		{"&#39;", "'"},
		{"&#43;", "+"},
		{"&#x26;", "&"},
		{"&#X3c;", "<"},
		{"&#x3E;", ">"},
		{"&#x22;", "\""},
		{"&#X27;", "'"},
		{"&#65;", "A"},
		{"&#065;", "A"},
		{"&#0000065;", "A"},
		{"&#x41;", "A"},
		{"&#X41;", "A"},
		{"&#x0000041;", "A"},
		{"&#9;", "\t"},
		{"&#1;", "\x01"},
		{"&#127;", "\x7f"},
		{"&#128;", "\xc2\x80"},
		{"&#233;", "é"},
		{"&#xe9;", "é"},
		{"&#xE9;", "é"},
		{"&#x20aC;", "€"},
		{"&#8364;", "€"},
		{"&#128512;", "😀"},
		{"&#x1F600;", "😀"},
		{"&#0;", putFor},
		{"&#0000000;", putFor},
		{"&#x0;", putFor},
		{"&#X0000000;", putFor},
		{"&#xd7ff;", "\ud7ff"},
		{"&#xd800;", putFor},
		{"&#xdbff;", putFor},
		{"&#xDC00;", putFor},
		{"&#xdfff;", putFor},
		{"&#xe000;", "\ue000"},
		{"&#55295;", "\ud7ff"},
		{"&#55296;", putFor},
		{"&#57343;", putFor},
		{"&#57344;", "\ue000"},
		{"&#xfffd;", putFor},
		{"&#xfffe;", "\ufffe"},
		{"&#xffff;", "\uffff"},
		{"&#x10000;", "\U00010000"},
		{"&#x10ffff;", "\U0010ffff"},
		{"&#x110000;", putFor},
		{"&#1114111;", "\U0010ffff"},
		{"&#1114112;", putFor},
		{"&#9999999;", putFor},
		{"&#xfffffff;", putFor},
		{"&#X1000041;", putFor},
	} {
		for _, after := range behind() {
			if got, size := One(c.s + after); got != c.want || size != len(c.s) {
				t.Errorf("P6.1: One(%.40q) is %q, %d, not %q, %d", c.s+after, got, size, c.want, len(c.s))
			}
		}
	}
}

func TestOneOfNone(t *testing.T) { // P6.1, P4
	for _, s := range noRefs() {
		if got, size := One(s); got != "" || size != 0 {
			t.Errorf("P6.1: One(%.40q) is %q, %d", s, got, size)
		}
		for _, after := range behind() {
			want, wantSize := oneOf(s + after)
			if got, size := One(s + after); got != want || size != wantSize {
				t.Errorf("P6.1: One(%.40q) is %q, %d, not %q, %d", s+after, got, size, want, wantSize)
			}
		}
	}
}

func TestOneOfEveryCountOfDigits(t *testing.T) { // P6.1
	for _, c := range []struct{ ahead, digit, last, want string }{
		{"&#", "0", "9", "\t"}, {"&#x", "0", "9", "\t"}, {"&#x", "0", "a", "\n"}, {"&#X", "0", "A", "\n"}, {"&#X", "0", "d", "\r"}, {"&#", "0", "0", putFor}, {"&#X", "0", "0", putFor},
		{"&#", "0", "a", ""}, {"&#", "9", "F", ""}, {"&#", "0", "x", ""}, {"&#x", "0", "g", ""}, {"&#X", "F", "G", ""}, {"&#x", "0", "x", ""}, {"&#", "0", "-", ""}, {"&#X", "0", " ", ""}, {"&#x", "a", "é", ""},
	} {
		for count := 1; count <= 12; count++ {
			s := c.ahead + strings.Repeat(c.digit, count-1) + c.last + ";"
			want, wantSize := c.want, len(s)
			if want == "" || count > 7 {
				want, wantSize = "", 0
			}
			if got, size := One(s); got != want || size != wantSize {
				t.Errorf("P6.1: One(%q) is %q, %d, not %q, %d", s, got, size, want, wantSize)
			}
			if got := Decode(s); got != want && (want != "" || got != s) {
				t.Errorf("P6.1: Decode(%q) is %q", s, got)
			}
		}
	}
}

func TestOneOfEveryNumber(t *testing.T) { // P6.1
	for n := range 0x112000 {
		want := putFor
		if n > 0 && n < 0xd800 || n > 0xdfff && n < 0x110000 {
			want = string(rune(n))
		}
		for _, s := range []string{fmt.Sprintf("&#%d;", n), fmt.Sprintf("&#%07d;", n), fmt.Sprintf("&#x%x;", n), fmt.Sprintf("&#X%07X;", n)} {
			if got, size := One(s); got != want || size != len(s) {
				t.Fatalf("P6.1: One(%q) is %q, %d, not %q, %d", s, got, size, want, len(s))
			}
		}
	}
	for n := 0x112000; n <= 0xfffffff; n += 1 + n>>8 {
		s := fmt.Sprintf("&#x%x;", n)
		if got, size := One(s); got != putFor || size != len(s) {
			t.Fatalf("P6.1: One(%q) is %q, %d", s, got, size)
		}
	}
}

func TestOneOfChangedReferences(t *testing.T) { // P6.1
	for _, ref := range allRefs() {
		for s := range changed(ref) {
			want, wantSize := oneOf(s)
			if got, size := One(s); got != want || size != wantSize {
				t.Fatalf("P6.1: One(%q) is %q, %d, not %q, %d", s, got, size, want, wantSize)
			}
			if got, want := Decode(s), decoded(s); got != want {
				t.Fatalf("P6.1: Decode(%q) is %q, not %q", s, got, want)
			}
		}
	}
	for _, ref := range nameRefs() { // all ways of writing its letters small and great
		for ways := range 1 << (len(ref) - 2) {
			b := []byte(ref)
			for i := range len(ref) - 2 {
				if ways>>i&1 == 1 {
					b[i+1] -= 'a' - 'A'
				}
			}
			if _, size := One(string(b)); (size == len(ref)) != (ways == 0) || size != 0 && ways != 0 {
				t.Errorf("P6.1: One(%q) has a length of %d", b, size)
			}
		}
	}
}

func TestDecode(t *testing.T) { // P6.1
	for _, c := range []struct{ s, want string }{
		{"", ""},
		{"a", "a"},
		{"&#65;", "A"},
		{"&amp;", "&"},
		{"a&amp;b", "a&b"},
		{"&lt;b&gt;", "<b>"},
		{"&lt;&gt;&quot;&apos;&amp;&#43;&#x2b;", "<>\"'&++"},
		{"é&lt;€&#128512;😀", "é<€😀😀"},
		{"&", "&"},
		{"&&", "&&"},
		{"a&", "a&"},
		{"a & b", "a & b"},
		{"&;", "&;"},
		{"&&amp;", "&&"},
		{"&amp;&", "&&"},
		{"&&amp;&", "&&&"},
		{"&amp", "&amp"},
		{"a&amp", "a&amp"},
		{"a&#6", "a&#6"},
		{"a&#x", "a&#x"},
		{"&lt;&g", "<&g"},
		{"&am&amp;p;", "&am&p;"},
		{"&#6&#65;5;", "&#6A5;"},
		{"&amp;amp;", "&amp;"},
		{"&amp;lt;", "&lt;"},
		{"&amp;#65;", "&#65;"},
		{"&#38;lt;", "&lt;"},
		{"&#x26;#38;lt;", "&#38;lt;"},
		{"&amp;amp;amp;", "&amp;amp;"},
		{"&am&#112;;", "&amp;"},
		{"&#54;&#53;;", "65;"},
		{"&&#35;65;", "&#65;"},
		{"&amp;;", "&;"},
		{";amp;&", ";amp;&"},
		{"&LT;&Lt;&nbsp;&#;&#x;&#12345678;", "&LT;&Lt;&nbsp;&#;&#x;&#12345678;"},
		{"&#0;&#xd800;&#1114112;", putFor + putFor + putFor},
		{"\x00&amp;\xff", "\x00&\xff"},
		{"\xc3&#41;", "\xc3)"},
		{"&\x00amp;&am\xffp;\x80", "&\x00amp;&am\xffp;\x80"},
		{"\xe2\x82&lt;\xac", "\xe2\x82<\xac"},
		{"<b a='c'>+", "<b a='c'>+"},
	} {
		if got := Decode(c.s); got != c.want {
			t.Errorf("P6.1: Decode(%q) is %q, not %q", c.s, got, c.want)
		}
	}
}

func TestDecodeOfSmallTexts(t *testing.T) { // P6.1
	for s := range smallTexts("&#;xX16aAltgmp<", 4) {
		for _, whole := range []string{s, "&" + s, "&" + s + ";", "&#" + s + ";", "&am" + s + "&lt;"} {
			if got, want := Decode(whole), decoded(whole); got != want {
				t.Fatalf("P6.1: Decode(%q) is %q, not %q", whole, got, want)
			}
			want, wantSize := oneOf(whole)
			if got, size := One(whole); got != want || size != wantSize {
				t.Fatalf("P6.1: One(%q) is %q, %d, not %q, %d", whole, got, size, want, wantSize)
			}
		}
	}
}

func TestDecodeOfOddTexts(t *testing.T) { // P6.1
	texts := oddTexts()
	for i, s := range texts {
		for _, whole := range []string{s, s + texts[len(texts)-1-i], s + s, s + "&" + s} {
			if got, want := Decode(whole), decoded(whole); got != want {
				t.Errorf("P6.1: Decode(%.80q) is %.80q, not %.80q", whole, got, want)
			}
		}
	}
}
