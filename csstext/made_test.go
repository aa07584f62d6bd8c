package csstext

import (
	"regexp"
	"strings"
	"unsafe"

	"muslin/api"
)

const mark = "ZgotmplZ"

var (
	plainOnes = regexp.MustCompile(`\A[A-Za-z0-9 .,%#+-]*\z`)
	wordOnes  = regexp.MustCompile(`[eE][xX][pP][rR][eE][sS][sS][iI][oO][nN]|[uU][rR][lL]`)
)

// isPlain tells what Plain should, by expressions that the program does not look at.
func isPlain(s string) bool {
	return len(s) <= 4096 && plainOnes.MatchString(s) && !wordOnes.MatchString(s)
}

// filtered tells what Filter should.
func filtered(s string) string {
	if isPlain(s) {
		return s
	}
	return mark
}

// plainTexts are texts that Plain takes.
func plainTexts() []string {
	out := []string{
		"", " ", "  ", "a", "Z", "0", "9", ".", ",", "%", "#", "+", "-", "12px", "12PX", "1.5em", "-0.5", "+1", "50%", "#f00", "#FFAA00", "red", "Times New Roman, serif", "1px  2px,3px", "a-b", "--x", "-moz-x", ".a #b", " a ", "a,b.c%d#e+f-g h", "0123456789", "abcdefghijklmnopqrstuvwxyz", "ABCDEFGHIJKLMNOPQRSTUVWXYZ", ".,%#+- ", "important", "inherit", "import", "javascript", "behavior", "binding", "calc", "%75rl", "u%72l", "#x75rl",
		mark, mark + mark, "zgotmplz", "x" + mark,
		strings.Repeat("a", api.MaxValue), strings.Repeat("a", api.MaxValue-1), strings.Repeat(" ", api.MaxValue), strings.Repeat("ur", api.MaxValue/2), strings.Repeat("rl", api.MaxValue/2), strings.Repeat("lru", api.MaxValue/3), strings.Repeat("u", api.MaxValue-1) + "r", strings.Repeat("expressio", api.MaxValue/9),
	}
	for _, word := range []string{"expression", "EXPRESSION", "eXpReSsIoN", "url", "URL", "uRl"} {
		for at := range len(word) {
			out = append(out, word[:at], word[at+1:], word[:at]+word[at+1:], word[at+1:]+word[:at])
			if at == 0 {
				continue
			}
			for _, amid := range []string{" ", "-", ".", "x", "0", "%", "#", "+", ",", "  "} {
				out = append(out, word[:at]+amid+word[at:])
			}
		}
	}
	return append(out, "u rl", "ur l", "expres sion", "noisserpxe", "lru", "rul", "expressoin", "expresion", "exppression", "uurrl", "ur-l", "expressiexpressio", "expressiour", "EXPRESSIO N", "uexpressio", "U R L")
}

// otherTexts are texts that Plain does not take.
func otherTexts() []string {
	out := []string{
		"a;b", ";", ":", "a:b", "a(b)", "(", ")", "{", "}", "a{b}", "[", "]", "\"", "'", "`", "\\", "/", "*", "/**/", "//", "<", ">", "</style", "<!--", "-->", "&", "&lt;", "!", "!important", "@", "@import", "=", "?", "^", "_", "a_b", "|", "~", "$", "\\75rl", "\\75 rl", "u\\rl", "e/**/xpression",
		"\t", "\n", "\r", "\f", "\v", "\x00", "\x7f", "\x80", "\xff", "a\tb", "a\nb", "a\x00", "\x00a", "12px\n", "\n12px",
		"é", "aé", "éa", "€", "😀", "\u00a0", "\u2003", "\u3000", "\ufeff", "\xc3", "\xe2\x82", "\xf0\x9f\x98", "\xc0\xa0", "\xc1\x81", "\ufffd", "\u0130", "\u0131", "\u017f", "\u212a", "\uff41", "\uff10", "\u0661", "expre\u017fsion", "expre\u017f\u017fion", "ＵＲＬ", "u\u0131rl", "express\u0130on",
		strings.Repeat("a", api.MaxValue+1), strings.Repeat(" ", api.MaxValue+1), strings.Repeat("a", 2*api.MaxValue), strings.Repeat("a", api.MaxValue) + ";", strings.Repeat("a", api.MaxValue-1) + ";", ";" + strings.Repeat("a", api.MaxValue-1), strings.Repeat("a", api.MaxValue-1) + "é", strings.Repeat("é", api.MaxValue/2), strings.Repeat("a", api.MaxValue-3) + "url", "url" + strings.Repeat("a", api.MaxValue-3), strings.Repeat("a", api.MaxValue-10) + "expression", "Expression" + strings.Repeat("a", api.MaxValue-10), strings.Repeat("a", api.MaxValue-2) + "url", strings.Repeat("u", api.MaxValue-2) + "rl", strings.Repeat("expressio", 454) + "n", mark + ";", mark + "url", strings.Repeat(mark, 513),
	}
	for _, word := range []string{"expression", "EXPRESSION", "Expression", "eXpReSsIoN", "ExPrEsSiOn", "expressioN", "url", "URL", "Url", "uRl", "urL", "UrL", "URl", "uRL"} {
		for _, around := range []string{"", " ", "a", "12px ", "c", "-", ".", "#", "%", "0", word, strings.Repeat("x", 500)} {
			out = append(out, around+word, word+around, around+word+around)
		}
		for at := range len(word) { // right behind a beginning of itself, and right ahead of an end
			out = append(out, word[:at]+word, word+word[at:], word[:at]+word+word[at:])
		}
	}
	return append(out, "curl", "CURL", "hurl", "urls", "purlieu", "expressions", "an expression", "expexpression", "uurl", "url expression", "expressionurl", "urlexpression", "url(x)", "url:x", "expression(x)", "u;rl", "url;", ";url")
}

// oddTexts are texts for the promises that hold of any text.
func oddTexts() []string {
	every := make([]byte, 256)
	for i := range every {
		every[i] = byte(i)
	}
	out := []string{string(every), string(every[128:]), string(every['a' : 'z'+1])}
	out = append(out, plainTexts()...)
	out = append(out, otherTexts()...)
	for _, c := range every {
		o := string([]byte{c})
		out = append(out, o, "ab"+o, o+"ab", "a"+o+"b", "u"+o+"rl", "u"+o+"l", "expr"+o+"ssion", o+"rl")
	}
	return out
}

// smallTexts hands out all texts of at most most of the pieces.
func smallTexts(pieces []string, most int) func(yield func(s string) bool) {
	return func(yield func(s string) bool) {
		var grow func(s string, more int) bool
		grow = func(s string, more int) bool {
			if !yield(s) {
				return false
			}
			for _, piece := range pieces {
				if more > 0 && !grow(s+piece, more-1) {
					return false
				}
			}
			return true
		}
		grow("", most)
	}
}

func smallPieces() []string {
	return []string{"u", "R", "l", "exp", "RESS", "ion", "e", " ", "-", "7", ";", "\n", "\xc3", "é"}
}

// fresh answers s in octets that may be written to, and a text that lies in them.
func fresh(s string) ([]byte, string) {
	b := []byte(s)
	if len(b) == 0 {
		return nil, ""
	}
	return b, unsafe.String(&b[0], len(b))
}

// shares tells whether two texts have an octet of memory in common.
func shares(a string, b string) bool {
	if a == "" || b == "" {
		return false
	}
	from, to := uintptr(unsafe.Pointer(unsafe.StringData(a))), uintptr(unsafe.Pointer(unsafe.StringData(b)))
	return from < to+uintptr(len(b)) && to < from+uintptr(len(a))
}
