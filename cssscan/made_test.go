package cssscan

import (
	"math"
	"regexp"
	"strings"
	"unsafe"
)

const long16 = "0123456789abcdef"

var (
	wordHead  = regexp.MustCompile(`\A[A-Za-z0-9_-]+`)
	greatOnes = regexp.MustCompile(`[A-Z]`)
)

// stringParts are the two kinds of strings: what of one ends nothing, its quote, and where a \ in it leads to.
var stringParts = map[int]struct {
	goesOn *regexp.Regexp
	quote  byte
	signed int
}{
	1: {regexp.MustCompile(`\A(?s:[^"\\\n\r]|\\.)*`), '"', 3},
	2: {regexp.MustCompile(`\A(?s:[^'\\\n\r]|\\.)*`), '\'', 4},
}

// smallOf is s with small letters in place of great ones.
func smallOf(s string) string {
	return greatOnes.ReplaceAllStringFunc(s, func(c string) string { return string(c[0] + 'a' - 'A') })
}

// putTo is what becomes of a word with octets put to it, one by one, as long as it has less than 16 and is not ? .
func putTo(word string, octets string) string {
	if word == "?" {
		return "?"
	}
	return word + smallOf(octets[:min(len(octets), max(0, 16-len(word)))])
}

// fed is what Feed should be: it takes whole pieces of s by expressions, and goes through no octets.
func fed(part int, word string, s string) (int, string) {
	if s == "" {
		return part, word
	}
	if part < 0 || part > 9 {
		return 9, ""
	}
	if part > 0 {
		word = ""
	}
	for s != "" && part != 9 {
		size := 0
		part, word, size = piece(part, word, s)
		s = s[size:]
	}
	return part, word
}

// piece is what the first piece of s leads to, and its size.
func piece(part int, word string, s string) (int, string, int) {
	switch {
	case part == 0:
		return plainPiece(word, s)
	case part == 1 || part == 2:
		return stringPiece(part, s)
	case part == 3 || part == 4:
		return part - 2, "", 1
	case part == 5 && s[0] == '*':
		return 6, "", 1
	case part == 5:
		return 0, "", 0
	case part == 7 && s[0] == '/':
		return 0, "", 1
	case part == 8:
		return endedBy(s, ")", 8)
	}
	if !strings.Contains(s, "*/") && strings.HasSuffix(s, "*") {
		return 7, "", len(s)
	}
	return endedBy(s, "*/", 6)
}

func plainPiece(word string, s string) (int, string, int) {
	if m := wordHead.FindString(s); m != "" {
		return 0, putTo(word, m), len(m)
	}
	to := map[byte]int{'"': 1, '\'': 2, '/': 5, '\\': 9}[s[0]]
	if s[0] == '(' {
		to = map[string]int{"url": 8, "?": 9}[word]
	}
	return to, "", 1
}

func stringPiece(part int, s string) (int, string, int) {
	of := stringParts[part]
	size := len(of.goesOn.FindString(s))
	switch {
	case size == len(s):
		return part, "", size
	case s[size] == of.quote:
		return 0, "", size + 1
	case s[size] == '\\':
		return of.signed, "", size + 1
	}
	return 9, "", len(s)
}

// endedBy is 0 behind the end, if s has it, else part.
func endedBy(s string, end string, part int) (int, string, int) {
	if at := strings.Index(s, end); at >= 0 {
		return 0, "", at + len(end)
	}
	return part, "", len(s)
}

// allParts are the parts that there are.
func allParts() []int {
	return []int{0, 1, 2, 3, 4, 5, 6, 7, 8, 9}
}

func noParts() []int {
	return []int{-1, 10, -2, 11, 15, 16, 255, 256, 257, 264, -256, 1 << 31, 1 << 32, 1<<32 + 1, 1<<32 + 8, -1 << 32, 1 << 62, math.MaxInt - 1, math.MaxInt, math.MinInt, math.MinInt + 1}
}

// oddParts are the parts that there are, and some that are none.
func oddParts() []int {
	return append(allParts(), noParts()...)
}

// every is a text of all octets.
func every() string {
	out := make([]byte, 256)
	for i := range out {
		out[i] = byte(i)
	}
	return string(out)
}

// but is every of the octets but those.
func but(octets string) []byte {
	var out []byte
	for _, c := range []byte(every()) {
		if strings.IndexByte(octets, c) < 0 {
			out = append(out, c)
		}
	}
	return out
}

// wordOctets are those that a word may have.
const wordOctets = "abcdefghijklmnopqrstuvwxyzABCDEFGHIJKLMNOPQRSTUVWXYZ0123456789-_"

// urls are the ways to write url.
func urls() []string {
	return []string{"url", "Url", "uRl", "urL", "URl", "UrL", "uRL", "URL"}
}

// otherWords are words that are not url: with an octet more, less or other, and others.
func otherWords() []string {
	out := []string{"a", "u", "ur", "rl", "l", "r", "ul", "lru", "rul", "uurl", "urll", "urrl", "urlurl", "curl", "urls", "xurl", "urlx", "0url", "url0", "-url", "url-", "_url", "url_", "url-prefix", "u-rl", "ur1", "vrl", "uri", "src", "image", "-", "--", "_", "0", "12px", "--url", "expression", "calc", "var", "rgb", "zgotmplz",
		long16[:14], long16[:15], long16, long16 + "g", long16[:13] + "url", long16[:14] + "url", long16 + "url", "url" + long16, strings.Repeat("url", 5), strings.Repeat("url", 6), strings.Repeat("a", 1000)}
	for _, w := range urls() {
		out = append(out, "a"+w, w+"a", "9"+w, w+"9", w+"-", "-"+w, w+"_", w+w)
	}
	return out
}

// oddWords are words that may be handed in, those of calls and others.
func oddWords() []string {
	out := append(otherWords(), urls()...)
	return append(out, "", "?", "??", "?url", "url?", "?u", "a?", " ", "url ", " url", "url(", "(", ")", "\"", "'", "/", "/*", "*/", "\\", "\n", "\x00", "url\x00", "é", "\xff", "ｕｒｌ", "A", "UR", "ABCDEFGHIJKLMNO", "ABCDEFGHIJKLMNOP", "ABCDEFGHIJKLMNOPQ", every(), strings.Repeat("?", 15), strings.Repeat("?", 16), strings.Repeat("é", 8), strings.Repeat("(", 40))
}

// wholeStrings, wholeComments and wholeAddresses are pieces that end; neverEnding are what does not, or is not followed.
func wholeStrings() []string {
	return []string{`""`, `''`, `"a"`, `'a'`, `"it's"`, `'say "x"'`, `"a\"b"`, `'a\'b'`, `"\\"`, `'\\'`, `"\\\""`, `'\\\''`, "\"a\\\nb\"", "'a\\\rb'", "\"\\\r\"", "'\\\n'", `"//"`, `'/*'`, `"*/"`, `"é"`, `'\é'`, "\"\x00\xff\\\xff\"", `"url("`, `')'`, `"url(a)"`, `"</style>"`, `"\27 "`, "\"\v\f\u2028\t\"", `"a;b{c}"`, `"?"`, `'\?'`}
}

func wholeComments() []string {
	return []string{"/**/", "/***/", "/* */", "/*/*/", "/*a*b*/", "/* * / */", "/*\n\r*/", "/****/", "/*'\"\\*/", "/*//*/", "/*\\*/", "/*a**/", "/* **a**/", "/*é\x00*/", "/*\xff*/", "/*url(*/", "/*)*/", "/*?*/", "/***a***/"}
}

func wholeAddresses() []string {
	out := []string{"url(a/b)", "url(\"a\")", "url('a')", "url(\")", "url(')", "url(\\)", "url(\n)", "url(\r)", "url(()", "url(url()", "url(/*)", "url(//)", "url(\x00\xff)", "url(é)", "url(data:x,y;z)", "url( a )", "url(?)"}
	for _, w := range urls() {
		out = append(out, w+"()", w+"(a)")
	}
	return out
}

func neverEnding() []string {
	return []string{"\"", "'", "\"a", "'a\\", "\"\\", "\"\n", "'\r", "\"a\nb\"", "'\n'", "\"\\\r\n\"", "/*", "/**", "/*a*", "/*/", "/* * /", "/", "//", "a/", "//a", "/ *", "\\", "\\\"", "a\\", "\\a", "/\\", "u\\rl(a)", "url\\(a)", "url(", "URL(a", "url((", "url(\"", "url(')", "url(\\", "url((\n"}
}

func wholePieces() []string {
	return append(append(wholeStrings(), wholeComments()...), wholeAddresses()...)
}

// oddTexts are texts for the promises that hold of any text.
func oddTexts() []string {
	out := []string{
		"", "a", "1", " ", "\n", "\v", ";", ",", ".", "=", "+", "-", "*", "!", "~", "?", ":", "<", ">", "&", "|", "^", "%", "@", "#", "_", "\\", "(", ")", "[", "]", "{", "}", "\x00", "\x7f", "\x80", "\xff", "é", "😀", "a: \"", "a: b", "a:b;c:d", "a{b:c}", "p > q{}", "@media x{a{b:c}}", "@import \"a\";", "@import url(a);", "a:url(b)", "a: url(b) c", "a:url (b)", "a:url\n(b)", "a:url/**/(b)", "a:url;(b", "a:curl(\"b\")", "a:b(c)", "a:b(url(c))", "a:b(url(c)", "a:calc(1px + (2px))", "a:é-url(b)", "a:éurl(b", "?(", "a?(", "?url(", "a/b", "a / b", "font:1px/2px \"a\",'b'", "a:1px/*b*/ 2px", "a:/**/url(b)", "a/url(b", "a//url(b)", "<!--a-->", "</style", "a:\"\\22\"", "a:'\\27'", "a:b\\", "a:\\75rl(b)", "-moz-x:url(a)", "--x:url(a", "a:U(RL(", "a:uuRL(b", "a:urL(b", "expression(x)", "a\tb\fc\rd", "}", "url", "url)", "(url", "(url(", "((", "))",
		every(), every() + every(), strings.Repeat("a", 2000) + "url(", strings.Repeat("a", 13) + "url(", strings.Repeat("/", 2000), strings.Repeat("\"", 2001), strings.Repeat("'", 2001), strings.Repeat("\"\\", 2001), strings.Repeat("*", 2000) + "/", strings.Repeat("url ", 300) + "url(", strings.Repeat("/*", 300), strings.Repeat("é", 300), strings.Repeat("url(", 300), strings.Repeat("url()", 300),
	}
	out = append(out, neverEnding()...)
	for _, ahead := range []string{"", "x", "x:", "url", "url ", "x/"} {
		for _, whole := range wholePieces() {
			for _, behind := range []string{"", "(", "url(a", " x", "\"b", "/"} {
				out = append(out, ahead+whole+behind)
			}
		}
	}
	for _, w := range append(otherWords(), urls()...) {
		for _, behind := range []string{"", " ", "(", " (", "\"", "/", "/(", "()", ")", "\\(", ";(", "'("} {
			out = append(out, w+behind)
		}
	}
	return out
}

// smallTexts hands out all texts of at most most of the pieces.
func smallTexts(pieces []string, most int) func(yield func(s string) bool) {
	return func(yield func(s string) bool) {
		var grow func(s string, more int) bool
		grow = func(s string, more int) bool {
			if !yield(s) {
				return false
			}
			for _, piece := range pieces {
				if more > 0 && !grow(s+piece, more-1) {
					return false
				}
			}
			return true
		}
		grow("", most)
	}
}

func smallPieces() []string {
	return []string{"url", "R", "x", "/", "*", "\"", "'", "\\", "(", ")", " ", "\n", "?", "-", "é"}
}

// fresh answers s in octets that may be written to, and a text that lies in them.
func fresh(s string) ([]byte, string) {
	b := []byte(s)
	if len(b) == 0 {
		return nil, ""
	}
	return b, unsafe.String(&b[0], len(b))
}

// shares tells whether two texts have an octet of memory in common.
func shares(a string, b string) bool {
	if a == "" || b == "" {
		return false
	}
	from, to := uintptr(unsafe.Pointer(unsafe.StringData(a))), uintptr(unsafe.Pointer(unsafe.StringData(b)))
	return from < to+uintptr(len(b)) && to < from+uintptr(len(a))
}
