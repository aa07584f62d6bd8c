package jsscan

import (
	"math"
	"regexp"
	"strings"
	"unsafe"

	"muslin/api"
)

const long16 = "0123456789abcdef"

var (
	wordHead  = regexp.MustCompile(`\A[\w$\x{80}-\x{10ffff}]+`)
	listed    = regexp.MustCompile(`\A(?:return|typeof|case|in|of|delete|void|throw|new|else|do|instanceof)\z`)
	blankHead = regexp.MustCompile(`\A[\t\n\f\r ]+`)
	literals  = regexp.MustCompile(`\A[\t\n\f\r ]*(?:null|false|true|0|-?[1-9][0-9]*|"(?:[A-Za-z0-9 _.,]|\\u[0-9a-f]{4})*"|\[(?:(?:null| -1)(?:,(?:null| -1))*)?\])[\t\n\f\r ]*\z`)
)

// lines are what goes on in one line: what of it ends nothing, and where what is behind that leads to.
var lines = map[int]struct {
	goesOn *regexp.Regexp
	ends   map[byte]int
	signed int
}{
	2:  {regexp.MustCompile(`\A(?s:[^"\\\n\r]|\\.)*`), map[byte]int{'"': 1}, 4},
	3:  {regexp.MustCompile(`\A(?s:[^'\\\n\r]|\\.)*`), map[byte]int{'\'': 1}, 5},
	9:  {regexp.MustCompile(`\A(?s:[^/\[\\\n\r]|\\.)*`), map[byte]int{'/': 1, '[': 11}, 10},
	11: {regexp.MustCompile(`\A(?s:[^\]\\\n\r]|\\.)*`), map[byte]int{']': 9}, 12},
}

// putTo is what becomes of a word with octets put to it, one by one, as long as it has less than 16.
func putTo(word string, octets string) string {
	return word + octets[:min(len(octets), max(0, 16-len(word)))]
}

// fed is what Feed should be: it takes whole pieces of s by expressions, and goes through no octets.
func fed(part int, word string, s string) (int, string) {
	if s == "" {
		return part, word
	}
	if part < 0 || part > 15 {
		return 15, ""
	}
	if part > 1 {
		word = ""
	}
	for s != "" && part != 15 {
		size := 0
		part, word, size = piece(part, word, s)
		s = s[size:]
	}
	return part, word
}

// piece is what the first piece of s leads to, and its size.
func piece(part int, word string, s string) (int, string, int) {
	rest, signed := map[int]int{4: 2, 5: 3, 10: 9, 12: 11}[part]
	switch {
	case part < 2:
		return codePiece(part, word, s)
	case signed:
		return rest, "", 1
	case part == 6:
		return behindLine(s)
	case part == 8 && s[0] == '/':
		return 0, "", 1
	case part == 7 || part == 8:
		return behindComment(s)
	case part > 12 && s[0] == '/':
		return 6, "", 1
	case part > 12 && s[0] == '*':
		return 7, "", 1
	case part == 13:
		return 9, "", 0
	case part == 14:
		return 0, "", 0
	}
	line := lines[part]
	size := len(line.goesOn.FindString(s))
	if size == len(s) {
		return part, "", size
	}
	if s[size] == '\\' {
		return line.signed, "", size + 1
	}
	if to, ok := line.ends[s[size]]; ok {
		return to, "", size + 1
	}
	return 15, "", len(s)
}

func codePiece(part int, word string, s string) (int, string, int) {
	if m := wordHead.FindString(s); m != "" {
		return 1, putTo(word, m), len(m)
	}
	if listed.MatchString(word) {
		part = 0
	}
	if m := blankHead.FindString(s); m != "" {
		return part, "", len(m)
	}
	to, ok := map[byte]int{'"': 2, '\'': 3, '`': 15, '/': 13 + part, ')': 1, ']': 1, '}': 1}[s[0]]
	if !ok {
		to = 0
	}
	return to, "", 1
}

func behindLine(s string) (int, string, int) {
	if at := strings.IndexAny(s, "\n\r"); at >= 0 {
		return 0, "", at + 1
	}
	return 6, "", len(s)
}

func behindComment(s string) (int, string, int) {
	if at := strings.Index(s, "*/"); at >= 0 {
		return 0, "", at + 2
	}
	if strings.HasSuffix(s, "*") {
		return 8, "", len(s)
	}
	return 7, "", len(s)
}

// allParts are the parts that there are.
func allParts() []int {
	return []int{0, 1, 2, 3, 4, 5, 6, 7, 8, 9, 10, 11, 12, 13, 14, 15}
}

func noParts() []int {
	return []int{-1, 16, -2, 17, 18, 32, 255, 256, 257, -256, 1 << 31, 1 << 32, 1<<32 + 1, 1<<32 + 2, -1 << 32, 1 << 62, math.MaxInt - 1, math.MaxInt, math.MinInt, math.MinInt + 1}
}

// oddParts are the parts that there are, and some that are none.
func oddParts() []int {
	return append(allParts(), noParts()...)
}

// every is a text of all octets.
func every() string {
	out := make([]byte, 256)
	for i := range out {
		out[i] = byte(i)
	}
	return string(out)
}

// every of the octets but those.
func but(octets string) []byte {
	var out []byte
	for _, c := range []byte(every()) {
		if strings.IndexByte(octets, c) < 0 {
			out = append(out, c)
		}
	}
	return out
}

// wordOctets are those that a word may have.
func wordOctets() string {
	out := "abcdefghijklmnopqrstuvwxyzABCDEFGHIJKLMNOPQRSTUVWXYZ0123456789_$"
	return out + every()[128:]
}

const blanks = "\t\n\f\r "

// valueWords are those behind which a value comes.
func valueWords() []string {
	return strings.Fields("return typeof case in of delete void throw new else do instanceof")
}

// otherWords are words behind which none comes: those of the list with an octet more or less or with great letters, and other ones.
func otherWords() []string {
	out := []string{"a", "x1", "_", "$", "$in", "in$", "_in", "in_", "in1", "1in", "if", "while", "for", "var", "let", "const", "yield", "await", "this", "null", "true", "false", "function", "default", "extends", "throws", "import", "export", "with", "0", "1e5", "0x1F", "é", "iné", "éin", "\xff", "\xffin", "in\x80", "o\u0131n", "\u0131n", "ｉｎ", "in\u00a0", "in\u2028", "in\ufeff", "😀",
		"inof", "newnew", "doin", "returnreturn", "instanceofinstan", "instanceofinstanceof", long16[:15], long16, long16 + "g", "return" + long16, long16 + "return", strings.Repeat("in", 8), strings.Repeat("a", 1000)}
	for _, w := range valueWords() {
		out = append(out, w+"s", w+"0", w+"$", w+"_", w+"\x80", "x"+w, "$"+w, strings.ToUpper(w), strings.ToUpper(w[:1])+w[1:], w[:len(w)-1]+strings.ToUpper(w[len(w)-1:]))
		for _, less := range []string{w[1:], w[:len(w)-1]} {
			if less != "" && !listed.MatchString(less) {
				out = append(out, less)
			}
		}
	}
	return out
}

// oddWords are words that may be handed in, those of calls and others.
func oddWords() []string {
	out := append(valueWords(), otherWords()...)
	return append(out, "", " ", "in ", " in", "return;", "a b", "\"", "'", "`", "/", "//", "/*", ")", "in/", "\\", "\n", "\x00", "in\x00", every(), strings.Repeat("é", 8), strings.Repeat("é", 7)+"a", strings.Repeat("/", 40))
}

// strings and patterns that are whole, comments that are, and what never ends.
func wholeStrings() []string {
	return []string{`""`, `''`, `"a"`, `'a'`, `"it's"`, `'say "x"'`, `"a\"b"`, `'a\'b'`, `"\\"`, `'\\'`, `"\\\""`, `'\\\''`, "\"a\\\nb\"", "'a\\\rb'", "\"\\\r\"", `"//"`, `'/*'`, `"é"`, `'\é'`, "\"\x00\xff\\\xff\"", "'`'", `"${x}"`, `"</script>"`, `"\u0022"`, "'\\`'", "\"\v\f\u2028\"", `"a]b"`}
}

func wholePatterns() []string {
	return []string{`/a/`, `/ /`, `/=/`, `/\//`, `/[/]/`, `/[\]/]/`, `/[[]/`, `/[]/`, `/[^/"']/`, `/\[/`, `/a\\/`, `/\\\//`, `/[\\]/`, `/[\\\]]/`, `/a*/`, `/"/`, `/'/`, "/`/", `/a]/`, `/]/`, `/(?:a|b){1,2}/`, "/\\\n/", "/[\\\n]/", "/\\\r/", "/[\\\r]/", "/é\xff\x00/", `/[a][/]/`, `/\*/`}
}

func wholeComments() []string {
	return []string{"//\n", "//a\r", "// it's \"x\" `\n", "///\n", "//*\n", "//\\\n", "/**/", "/***/", "/* */", "/*/*/", "/*a*b*/", "/* * / */", "/*\n\r*/", "/****/", "/*'\"`*/", "/*//*/", "/*\\*/", "/*a**/", "/* **a**/", "//\xff\n", "/*é\x00*/"}
}

func neverEnding() []string {
	return []string{"\"", "'", "\"a", "'a\\", "\"\\", "\"\n", "'\r", "\"a\nb\"", "'\n'", "/a", "/[", "/[/", "/[a]", "/\\", "/[\\", "/a\n/", "/[a\n]/", "/\r", "/[\r", "//", "//a", "/*", "/**", "/*a*", "/*/", "`", "`a`", "a`", "/a`", "x/", "/", "x//", "x/*", "(/", ")/", "return/", "in /"}
}

// oddTexts are texts for the promises that hold of any text.
func oddTexts() []string {
	out := []string{
		"", "a", "1", " ", "\n", "\v", ";", ",", ".", "=", "+", "-", "*", "!", "~", "?", ":", "<", ">", "&", "|", "^", "%", "@", "#", "\\", "(", ")", "[", "]", "{", "}", "\x00", "\x7f", "\x80", "\xff", "é", "😀", "x = \"", "f(", "f( ", "f(a)", "f(a)/", "f(a)/2", "a[0]/b/c", "{}/a/", "x++/2", "x = /a/g", "x=y/z/w", "a / b", "a\n/b/c", "return /a/", "return\n\"a\"", "(typeof x)/2", "typeof/a/", "typeof/**/x", "return//a\n/b/", "x//a\n/b/", "x/*a*/ /b/", "x/**// b", "x /= 2", "x/=/a/", "/=/", "/a/ / /b/", "a in/b/", "a instanceof/b/", "ain/b/", "a.in/b/", "new Date/1", "do/a/.test(x)", "doo/a/", "case'a':", "case\"a\":'b'", "var a='b',c=\"d\";", "\"a\"+'b'", "\"a\"/2", "'a'/2/1", "null/1", "1/2", "1 / 2", "$/1", "_/1", "é/1", "<!--x", "-->", "a<!--b\n", "#!x", "function(){return{a:/b/}}", "f(/[/\"']/, '\\'', \"\\\"\")", "if(x)/a/.test(y)", "x=a?/b/:/c/",
		every(), every() + every(), strings.Repeat("a", 2000) + "/", strings.Repeat("/", 2000), strings.Repeat("\"", 2001), strings.Repeat("\\", 2001), strings.Repeat("*", 2000) + "/", strings.Repeat("return ", 300) + "/", strings.Repeat("/*", 300), strings.Repeat("é", 300),
	}
	out = append(out, neverEnding()...)
	for _, ahead := range []string{"", "x", "x=", "return ", "x "} {
		for _, whole := range wholePieces() {
			for _, behind := range []string{"", "/", "/a/", " x", "\"b"} {
				out = append(out, ahead+whole+behind)
			}
		}
	}
	for _, w := range append(valueWords(), otherWords()...) {
		for _, behind := range []string{"", " ", "/", " /", "\"", "/a/", ";/", "(/", ")/", "\n'", "`"} {
			out = append(out, w+behind)
		}
	}
	return out
}

func wholePieces() []string {
	return append(append(wholeStrings(), wholePatterns()...), wholeComments()...)
}

// smallTexts hands out all texts of at most most of the pieces.
func smallTexts(pieces []string, most int) func(yield func(s string) bool) {
	return func(yield func(s string) bool) {
		var grow func(s string, more int) bool
		grow = func(s string, more int) bool {
			if !yield(s) {
				return false
			}
			for _, piece := range pieces {
				if more > 0 && !grow(s+piece, more-1) {
					return false
				}
			}
			return true
		}
		grow("", most)
	}
}

func smallPieces() []string {
	return []string{"in", "x", "/", "*", "\"", "'", "\\", "[", "]", ")", "=", " ", "\n", "`", "é"}
}

// someValues are values of each kind, deep and wide ones too.
func someValues() []api.Value {
	text := func(s string) api.Value { return api.Value{Kind: 4, Text: s} }
	number := func(n int) api.Value { return api.Value{Kind: 3, Int: n} }
	list := func(l ...api.Value) api.Value { return api.Value{Kind: 5, List: l} }
	out := []api.Value{{}, {Kind: 1}, {Kind: 2}, number(0), number(1), number(-1), number(10), number(-12), number(math.MaxInt), number(math.MinInt)}
	for _, s := range []string{"", "a", "it's", `"`, `\`, "/", "*/", "\n", "\r", "`", "</script>", "]]>", "é", "😀", "\xff", "\u2028", every(), "return", "a/b", strings.Repeat("\"", 4096)} {
		out = append(out, text(s))
		for kind := 7; kind <= 11; kind++ {
			out = append(out, api.Value{Kind: kind, Text: s})
		}
	}
	deep, deepest := list(), list()
	for range 15 {
		deep = list(deep)
	}
	for range 100 {
		deepest = api.Value{Kind: 6, Keys: []string{"a\"'/"}, List: []api.Value{deepest}}
	}
	wide := list(out...)
	return append(out, list(), list(number(-1)), list(number(-1), number(-2)), list(text("a"), number(1), list(), api.Value{Kind: 6}), deep, deepest, wide,
		api.Value{Kind: 6}, api.Value{Kind: 6, Keys: []string{"a", "b/"}, List: []api.Value{number(-1), wide}}, api.Value{Kind: 6, Keys: []string{"a"}, List: []api.Value{number(1), number(-2)}}, api.Value{Kind: 6, Keys: []string{"a"}}, api.Value{Kind: -1, Text: "/"}, api.Value{Kind: 12, Text: "'"})
}

// fresh answers s in octets that may be written to, and a text that lies in them.
func fresh(s string) ([]byte, string) {
	b := []byte(s)
	if len(b) == 0 {
		return nil, ""
	}
	return b, unsafe.String(&b[0], len(b))
}

// shares tells whether two texts have an octet of memory in common.
func shares(a string, b string) bool {
	if a == "" || b == "" {
		return false
	}
	from, to := uintptr(unsafe.Pointer(unsafe.StringData(a))), uintptr(unsafe.Pointer(unsafe.StringData(b)))
	return from < to+uintptr(len(b)) && to < from+uintptr(len(a))
}
