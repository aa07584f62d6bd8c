package refs

import (
	"fmt"
	"regexp"
	"strconv"
	"strings"
	"unsafe"

	"muslin/utf"
)

const putFor = "\xef\xbf\xbd" // U+FFFD

var (
	atBeginning = regexp.MustCompile(`^&(?:(amp|lt|gt|quot|apos)|#([0-9]{1,7})|#[xX]([0-9a-fA-F]{1,7}));`)
	anywhere    = regexp.MustCompile(`&(?:amp|lt|gt|quot|apos|#[0-9]{1,7}|#[xX][0-9a-fA-F]{1,7});`)
	escapes     = strings.NewReplacer("&", "&amp;", "<", "&lt;", ">", "&gt;", "\"", "&#34;", "'", "&#39;", "+", "&#43;")
	finishes    = completions()
)

// oneOf tells what One should, by an expression that the program does not look at.
func oneOf(s string) (string, int) {
	found := atBeginning.FindStringSubmatch(s)
	switch {
	case found == nil:
		return "", 0
	case found[1] != "":
		return map[string]string{"amp": "\x26", "lt": "\x3c", "gt": "\x3e", "quot": "\x22", "apos": "\x27"}[found[1]], len(found[0])
	case found[2] != "":
		return numbered(found[2], 10), len(found[0])
	}
	return numbered(found[3], 16), len(found[0])
}

func numbered(digits string, base int) string {
	n, err := strconv.ParseInt(digits, base, 64)
	if err != nil || n == 0 || n > 0x10ffff || n >= 0xd800 && n <= 0xdfff {
		return putFor
	}
	return string(rune(n))
}

func decoded(s string) string {
	return anywhere.ReplaceAllStringFunc(s, func(ref string) string {
		stands, _ := oneOf(ref)
		return stands
	})
}

func escapedText(s string) string {
	return escapes.Replace(utf.Repair(s))
}

// completions are texts of which one makes a reference of each text that may become one.
func completions() []string {
	out := []string{";", "0;", "#0;"}
	for _, name := range []string{"amp;", "lt;", "gt;", "quot;", "apos;"} {
		for i := range len(name) - 1 {
			out = append(out, name[i:])
		}
	}
	return out
}

// onItsWay tells what Unfinished should: can s become a reference by octets behind it?
func onItsWay(s string) bool {
	if s == "" || len(s) > 20 { // longer than any reference
		return false
	}
	for _, rest := range finishes {
		if _, size := oneOf(s + rest); size == len(s+rest) {
			return true
		}
	}
	return false
}

// onItsWayAtEnd tells whether s has such a text at its end.
func onItsWayAtEnd(s string) bool {
	for i := range len(s) {
		if s[i] == '&' && onItsWay(s[i:]) {
			return true
		}
	}
	return false
}

func nameRefs() []string {
	return []string{"&amp;", "&lt;", "&gt;", "&quot;", "&apos;"}
}

// numberRefs are references by numbers: all counts of digits, 0s ahead, and the numbers at which something changes.
func numberRefs() []string {
	out := []string{"&#1234567;", "&#9999999;", "&#0000000;", "&#0000065;", "&#x0000041;", "&#X0000041;", "&#xfffffff;", "&#XFFFFFFF;", "&#xabcdefA;", "&#xABCDEFa;"}
	for _, n := range []int{
		0, 1, 9, 10, 0x7f, 0x80, 233, 0x7ff, 0x800, 0x20ac, 0xd7fe, 0xd7ff, 0xd800, 0xdbff, 0xdc00, 0xdfff, 0xe000, 0xfffd, 0xfffe, 0xffff, 0x10000, 0x1f600,
		0x10fffe, 0x10ffff, 0x110000, 0x110041, 0x1fffff, '&', '<', '>', '"', '\'', '+', '#', ';', 'a', 'A', 'x', '0', 65,
	} {
		out = append(out, fmt.Sprintf("&#%d;", n), fmt.Sprintf("&#%07d;", n), fmt.Sprintf("&#x%x;", n), fmt.Sprintf("&#X%X;", n), fmt.Sprintf("&#x%07x;", n))
	}
	return out
}

func allRefs() []string {
	return append(nameRefs(), numberRefs()...)
}

// noRefs are texts that begin with no reference.
func noRefs() []string {
	return []string{
		"", ";", "&", "&;", "&&", "& ", "& amp;", "&amp", "&amp ;", "&amp&", "&AMP;", "&Amp;", "&aMp;", "&amP;", "&LT;", "&Lt;", "&lT;", "&GT;", "&gT;", "&QUOT;", "&quoT;", "&APOS;", "&aPos;",
		"&am;", "&ap;", "&mp;", "&a;", "&l;", "&t;", "&g;", "&quo;", "&uot;", "&apo;", "&pos;", "&ampp;", "&aamp;", "&ltt;", "&lgt;", "&quott;", "&quote;", "&aposs;", "&apoz;", "&anp;", "&nbsp;", "&copy;", "&hellip;",
		"&#;", "&#", "&# ;", "&#x;", "&#X;", "&#x", "&#X", "&#xx1;", "&#Xx1;", "&x41;", "&#-1;", "&#+1;", "&# 1;", "&#1 ;", "&#1.0;", "&#1e2;", "&#0x41;", "&#a;", "&#6a;", "&#a6;", "&#6x5;", "&#xg;", "&#x4g;", "&#xg4;", "&#x-1;", "&#x 41;", "&#x4_1;", "&##65;",
		"&#65", "&#65 ;", "&#65&", "&#65a;", "&#x41", "&#x41 ;", "&#x41&", "&#12345678;", "&#00000065;", "&#x12345678;", "&#X00000041;", "&#x00000000;", "&#123456789012345678901;", "&#x" + strings.Repeat("0", 1000) + "41;", "&#" + strings.Repeat("0", 1000) + ";",
		"a&amp;", " &amp;", "\x00&amp;", "&\x00amp;", "&am\x00p;", "&\xff;", "&é;", "&аmp;", "&#٣;", "&#６５;", "＆amp;", "&amp；", "&amp:", "&amp,", "&l\u0074\u0301;",
	}
}

// brokenTexts are texts that utf.Repair turns.
func brokenTexts() []string {
	return []string{"\x00", "a\x00b", "\xff", "\x80", "\xc3", "\xc3a", "é\xc3é", "\xe2\x82", "\xe2\x82<", "\xf0\x9f\x98", "\xc0\x80", "\xc0\xa6", "\xed\xa0\x80", "\xf4\x90\x80\x80", "&\x00;", "<\xff>", "&am\xffp;", "&#6\x005;"}
}

// oddTexts are texts for the promises that hold of any text.
func oddTexts() []string {
	every := make([]byte, 256)
	for i := range every {
		every[i] = byte(i)
	}
	out := []string{
		"a", "ab", "plain text", "é", "€", "😀", "grüße, 世界 😀", "<b>{{.}}</b>", "\"'<>&+", "+", "++", "'", "\"", "a+b", "a&b", "a&&b", "&&&&", "x=1&y=2", "x=1&lt=2", "x=1&lt;=2", "</title>", "<!-- -->", "&amp;lt;", "&#38;amp;", "&#x26;#65;", "&amp;#65;", "&&amp;", "&amp;;", "&a&amp;", "&am&#65;", "&#&#65;", "&#6&#65;5;", "&#x4&lt;1;",
		"\u2028", "\ufeff", "\uffff", "\U0010ffff", putFor, string(every), strings.Repeat("&<>\"'+", 300), strings.Repeat("&amp;&#65;é", 300),
	}
	out = append(out, brokenTexts()...)
	out = append(out, noRefs()...)
	refs := allRefs()
	for i, ref := range refs {
		out = append(out, ref, ref+"a", "a"+ref, ref+";", "&"+ref, ref+"&", ref+refs[len(refs)-1-i], "a"+ref+"b"+ref+"c", ref[:len(ref)-1], ref[1:], "\xff"+ref+"\x00")
	}
	return out
}

// smallTexts hands out all texts of at most most octets of those in from.
func smallTexts(from string, most int) func(yield func(s string) bool) {
	return func(yield func(s string) bool) {
		var grow func(s string) bool
		grow = func(s string) bool {
			if !yield(s) {
				return false
			}
			for i := range len(from) {
				if len(s) < most && !grow(s+from[i:i+1]) {
					return false
				}
			}
			return true
		}
		grow("")
	}
}

// changed hands out s with each octet left out, put in, and put for another.
func changed(s string) func(yield func(s string) bool) {
	return func(yield func(s string) bool) {
		for i := range len(s) + 1 {
			if i < len(s) && !yield(s[:i]+s[i+1:]) {
				return
			}
			for c := range 256 {
				one := string([]byte{byte(c)})
				if !yield(s[:i]+one+s[i:]) || i < len(s) && !yield(s[:i]+one+s[i+1:]) {
					return
				}
			}
		}
	}
}

// fresh answers s in octets that may be written to, and a text that lies in them.
func fresh(s string) ([]byte, string) {
	b := []byte(s)
	if len(b) == 0 {
		return nil, ""
	}
	return b, unsafe.String(&b[0], len(b))
}

// shares tells whether two texts have an octet of memory in common.
func shares(a string, b string) bool {
	if a == "" || b == "" {
		return false
	}
	from, to := uintptr(unsafe.Pointer(unsafe.StringData(a))), uintptr(unsafe.Pointer(unsafe.StringData(b)))
	return from < to+uintptr(len(b)) && to < from+uintptr(len(a))
}
