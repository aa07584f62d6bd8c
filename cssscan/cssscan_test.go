package cssscan

import (
	"html/template"
	"strings"
	"testing"

	"muslin/csstext"
)

// steps tells whether Step is want and wantWord.
func steps(t *testing.T, part int, word string, c byte, want int, wantWord string) {
	t.Helper()
	if got, gotWord := Step(part, word, c); got != want || gotWord != wantWord {
		t.Errorf("P16.1: Step(%d, %.60q, %q) is %d, %.60q, not %d, %.60q", part, word, c, got, gotWord, want, wantWord)
	}
}

// feeds tells whether Feed is want and wantWord.
func feeds(t *testing.T, part int, word string, s string, want int, wantWord string) {
	t.Helper()
	if got, gotWord := Feed(part, word, s); got != want || gotWord != wantWord {
		t.Errorf("P16.1: Feed(%d, %.60q, %.60q) is %d, %.60q, not %d, %.60q", part, word, s, got, gotWord, want, wantWord)
	}
}

// asShould tells whether Feed is as the tests' own reading of the text.
func asShould(t *testing.T, part int, word string, s string) {
	t.Helper()
	want, wantWord := fed(part, word, s)
	feeds(t, part, word, s, want, wantWord)
}

func TestStepOfWords(t *testing.T) { // P16.1
	for _, c := range []byte(wordOctets) {
		small := smallOf(string([]byte{c}))
		steps(t, 0, "", c, 0, small)
		steps(t, 0, "x", c, 0, "x"+small)
		steps(t, 0, "ur", c, 0, "ur"+small)
		steps(t, 0, "url", c, 0, "url"+small)
		steps(t, 0, "AB", c, 0, "AB"+small) // what is handed in stays as it is
		steps(t, 0, "a b", c, 0, "a b"+small)
		steps(t, 0, long16[:14], c, 0, long16[:14]+small)
		steps(t, 0, long16[:15], c, 0, long16[:15]+small)
		steps(t, 0, long16, c, 0, long16)
		steps(t, 0, long16+"g", c, 0, long16+"g")
		steps(t, 0, long16+"GHI", c, 0, long16+"GHI")
		steps(t, 0, "?", c, 0, "?")
		steps(t, 0, "??", c, 0, "??"+small) // behind no action
		steps(t, 0, "?a", c, 0, "?a"+small)
		steps(t, 0, "a?", c, 0, "a?"+small)
		steps(t, 0, every(), c, 0, every())
	}
	if len(wordOctets) != 26+26+10+2 {
		t.Fatalf("%d octets", len(wordOctets))
	}
}

func TestGreatLetters(t *testing.T) { // P16.1
	for i := range 26 {
		great, small := byte('A'+i), string([]byte{byte('a' + i)})
		steps(t, 0, "", great, 0, small)
		steps(t, 0, "a", great, 0, "a"+small)
		steps(t, 0, long16[:15], great, 0, long16[:15]+small)
		steps(t, 5, "", great, 0, small)
	}
	for _, c := range "@[`{" {
		steps(t, 0, "a", byte(c), 0, "")
	}
	feeds(t, 0, "", "AbC-XyZ_09", 0, "abc-xyz_09")
	feeds(t, 0, "", "ABCDEFGHIJKLMNOPQ", 0, "abcdefghijklmnop")
	feeds(t, 0, "", "\xc0\xc9\xde\xff", 0, "")
	feeds(t, 0, "", "aÉb", 0, "b")
}

func TestStepBehindWords(t *testing.T) { // P16.1
	for _, word := range oddWords() {
		for _, c := range but(wordOctets + "\"'/\\(") {
			steps(t, 0, word, c, 0, "")
		}
		for c, want := range map[byte]int{'"': 1, '\'': 2, '/': 5, '\\': 9} {
			steps(t, 0, word, c, want, "")
		}
		switch word {
		case "url":
			steps(t, 0, word, '(', 8, "")
		case "?":
			steps(t, 0, word, '(', 9, "")
		default:
			steps(t, 0, word, '(', 0, "")
		}
	}
}

func TestStepWithinTexts(t *testing.T) { // P16.1
	for _, c := range []struct {
		part int
		of   map[byte]int
		rest int
	}{
		{1, map[byte]int{'"': 0, '\\': 3, '\n': 9, '\r': 9}, 1},
		{2, map[byte]int{'\'': 0, '\\': 4, '\n': 9, '\r': 9}, 2},
		{3, nil, 1},
		{4, nil, 2},
		{6, map[byte]int{'*': 7}, 6},
		{7, map[byte]int{'/': 0, '*': 7}, 6},
		{8, map[byte]int{')': 0}, 8},
		{9, nil, 9},
	} {
		for _, o := range []byte(every()) {
			want, ok := c.of[o]
			if !ok {
				want = c.rest
			}
			for _, word := range []string{"", "x", "url", "?", long16, long16 + "g"} {
				steps(t, c.part, word, o, want, "")
			}
		}
	}
}

func TestStepBehindASlash(t *testing.T) { // P16.1
	for _, word := range oddWords() {
		for _, c := range []byte(every()) {
			if c == '*' {
				steps(t, 5, word, c, 6, "")
				continue
			}
			want, wantWord := Step(0, "", c)
			steps(t, 5, word, c, want, wantWord)
		}
		steps(t, 5, word, '/', 5, "")
		steps(t, 5, word, '"', 1, "")
		steps(t, 5, word, '\'', 2, "")
		steps(t, 5, word, '\\', 9, "")
		steps(t, 5, word, '(', 0, "")
		steps(t, 5, word, ' ', 0, "")
		steps(t, 5, word, 'l', 0, "l")
		steps(t, 5, word, 'U', 0, "u")
		steps(t, 5, word, '-', 0, "-")
	}
}

func TestStepOfNoParts(t *testing.T) { // P16.1, P1
	for _, part := range noParts() {
		for _, c := range []byte(every()) {
			for _, word := range []string{"", "url", "?", "x", long16 + long16} {
				steps(t, part, word, c, 9, "")
			}
		}
	}
}

func TestWordsOfOtherPartsCountAsEmpty(t *testing.T) { // P16.1
	for _, word := range oddWords() {
		for _, c := range []byte(every()) {
			for _, part := range oddParts() {
				if part == 0 {
					continue
				}
				want, wantWord := Step(part, "", c)
				steps(t, part, word, c, want, wantWord)
				if wantWord != "" && part != 5 {
					t.Errorf("P16.1: Step(%d) of %q answers a word", part, c)
				}
			}
		}
		feeds(t, 1, word, "\"(", 0, "")
		feeds(t, 2, word, "'(", 0, "")
		feeds(t, 5, word, "(", 0, "")
		feeds(t, 5, word, "l(", 0, "")
		feeds(t, 7, word, "/(", 0, "")
		feeds(t, 8, word, ")(", 0, "")
	}
}

func TestWordsAsLongAsTheyMayBe(t *testing.T) { // P16.1
	for size := range 40 {
		word := strings.Repeat("w", size)
		for _, c := range []struct{ octet, small string }{{"a", "a"}, {"Z", "z"}, {"0", "0"}, {"-", "-"}, {"_", "_"}} {
			want := word
			if size < 16 {
				want += c.small
			}
			steps(t, 0, word, c.octet[0], 0, want)
		}
		steps(t, 0, word, ' ', 0, "")
		steps(t, 0, word, '(', 0, "")
		steps(t, 0, word, '"', 1, "")
		feeds(t, 0, "", word, 0, strings.Repeat("w", min(size, 16)))
		feeds(t, 0, word, "XYZ", 0, putTo(word, "XYZ"))
		if size > 0 {
			feeds(t, 0, "", word+"url(", 0, "")
			feeds(t, 0, "", "url"+word+"(", 0, "")
			feeds(t, 0, word, "url(", 0, "")
		}
	}
	feeds(t, 0, "", long16+"ghi", 0, long16)
	feeds(t, 0, "", long16[:15]+"G", 0, long16[:15]+"g")
	feeds(t, 0, long16, "ghi", 0, long16)
	feeds(t, 0, long16[:15], "GHI", 0, long16[:15]+"g")
	feeds(t, 0, long16+"GHI", "jkl", 0, long16+"GHI") // more than there may be stays as it is handed in
	feeds(t, 0, long16+"GHI", "", 0, long16+"GHI")
	feeds(t, 0, long16+"GHI", " ", 0, "")
	feeds(t, 0, long16+"GHI", " x", 0, "x")
	feeds(t, 0, strings.Repeat("W", 1000), "x", 0, strings.Repeat("W", 1000))
	feeds(t, 0, "", strings.Repeat("-", 40), 0, strings.Repeat("-", 16))
}

func TestAddresses(t *testing.T) { // P16.1
	for _, w := range urls() {
		for _, ahead := range []string{"", " ", "a:", "a: ", "a ", ";", "{", "(", ")", "()", "b(", "url()", "url(a)", "\"\"", "'a'", "/**/", "/", "//", ".", "%", "#", "+", "!", "@", "?", "é", "\xff", "\x00", "\n", "\v", "a/", "u/", "u/**/", "url ", "url;"} {
			feeds(t, 0, "", ahead+w, 0, "url")
			feeds(t, 0, "", ahead+w+"(", 8, "")
			feeds(t, 0, "", ahead+w+"(a", 8, "")
			feeds(t, 0, "", ahead+w+"((", 8, "")
			feeds(t, 0, "", ahead+w+"(url(", 8, "")
			feeds(t, 0, "", ahead+w+"(\"", 8, "")
			feeds(t, 0, "", ahead+w+"('", 8, "")
			feeds(t, 0, "", ahead+w+"(\\", 8, "")
			feeds(t, 0, "", ahead+w+"(\n", 8, "")
			feeds(t, 0, "", ahead+w+"(/*", 8, "")
			feeds(t, 0, "", ahead+w+"()", 0, "")
			feeds(t, 0, "", ahead+w+"(\\)", 0, "")
			feeds(t, 0, "", ahead+w+"(\")\"", 1, "")
			feeds(t, 0, "", ahead+w+"()(", 0, "")
			feeds(t, 0, "", ahead+w+"()url(", 8, "")
			feeds(t, 0, "", ahead+w+"(a)b", 0, "b")
		}
		for at := range len(w) {
			part, word := Feed(0, "", w[:at])
			feeds(t, part, word, w[at:]+"(", 8, "")
		}
		for _, amid := range []string{" ", "\t", "\n", "\f", "\r", "\v", "\x00", "/**/", "/", ";", ":", ".", "?", "é", "\xff", "\"\"", "()", "!", "\u00a0"} {
			feeds(t, 0, "", w+amid+"(", 0, "")
		}
	}
	for _, w := range otherWords() {
		for _, ahead := range []string{"", " ", "a:", "(", "/", "/**/"} {
			feeds(t, 0, "", ahead+w+"(", 0, "")
			feeds(t, 0, "", ahead+w+"(a)", 0, "")
			feeds(t, 0, "", ahead+w+"(url(", 8, "")
			feeds(t, 0, "", ahead+w+"(\"", 1, "")
		}
	}
	for _, s := range []string{"(", "((", " (", "a (", ")(", "\"url\"(", "'url'(", "/*url*/(", "/(", "u rl(", "ur/l(", "u\nrl(", "u(rl(", "url)(", "1(", "?(", "-(", "_(", "é(", "u\xffrl(", "u\x00rl(", "ur\u0131l(", "ｕｒｌ(", "u%72l("} {
		feeds(t, 0, "", s, 0, "")
	}
}

func TestWhatStandsInAddresses(t *testing.T) { // P16.1
	for _, s := range append(oddTexts(), neverEnding()...) {
		inside := strings.ReplaceAll(s, ")", "")
		feeds(t, 0, "", "a:url("+inside, 8, "")
		feeds(t, 0, "", "a:url("+inside+")", 0, "")
		if inside != "" {
			feeds(t, 8, "url", inside, 8, "")
		}
	}
	for _, s := range wholeAddresses() {
		for _, ahead := range []string{"", " ", "a:", "a(", "\"\"", "/**/"} {
			feeds(t, 0, "", ahead+s, 0, "")
			feeds(t, 0, "", ahead+s+"(", 0, "")
			feeds(t, 0, "", ahead+s+"/*", 6, "")
		}
		feeds(t, 0, "?", s, 9, "")
		feeds(t, 0, "?", " "+s, 0, "")
	}
}

func TestBehindActions(t *testing.T) { // P16.1
	for s, want := range map[string]int{
		"a": 0, "url": 0, "px": 0, "-_9Z": 0, long16 + long16: 0, " ": 0, "?": 0, ";": 0, ")": 0, "é": 0, "\n": 0, "\"": 1, "'": 2, "/": 5, "/*": 6, "\\": 9,
		"(": 9, "a(": 9, "l(": 9, "rl(": 9, "url(": 9, "-(": 9, long16 + "(": 9, "((": 9, "()": 9, "px(a)": 9,
		" (": 0, ";(": 0, "\n(": 0, "/(": 0, "/**/(": 0, "é(": 0, ")(": 0, "\"\"(": 0, "?(": 0, "px (": 0, "px/(": 0, " url(": 8, ";url(": 8, "/url(": 8, "px url(a": 8, "/**/url(": 8, "éurl(": 8, "?url(": 8, "px xurl(": 0,
	} {
		word := ""
		switch s {
		case "a", "url", "px", "-_9Z", long16 + long16:
			word = "?"
		}
		part, unknownWord, ok := Hole(0)
		if part != 0 || unknownWord != "?" || !ok {
			t.Fatalf("P16.1: Hole(0) is %d, %q, %t", part, unknownWord, ok)
		}
		feeds(t, part, unknownWord, s, want, word)
		behind, behindWord := Feed(5, "", s)
		feeds(t, 5, "?", s, behind, behindWord)
	}
	feeds(t, 0, "", "?", 0, "") // the octet ? is no word's
	feeds(t, 0, "a", "?", 0, "")
	feeds(t, 0, "?", "?", 0, "")
}

func TestStrings(t *testing.T) { // P16.1
	for _, s := range wholeStrings() {
		for _, ahead := range []string{"", "x", "x:", " ", "f(", "url", "x/", "/", "url(a)", "/**/", "\"\"", "''"} {
			feeds(t, 0, "", ahead+s, 0, "")
			feeds(t, 0, "?", ";"+ahead+s, 0, "")
			feeds(t, 0, "", ahead+s+"(", 0, "")
			feeds(t, 0, "", ahead+s+"x", 0, "x")
		}
	}
	for s, want := range map[string]int{"\"": 1, "'": 2, "\"'": 1, "'\"": 2, "\"a'b'c": 1, "'a\"b\"c": 2, "\"\\": 3, "'\\": 4, "\"\\\"": 1, "'\\'": 2, "\"\\\\": 1, "\"\\\\\"": 0, "'\\\\'": 0, "\"\\\\\\\"": 1, "\"\n": 9, "\"\r": 9, "'\n": 9, "'\r": 9, "\"\\\n": 1, "\"\\\r": 1, "'\\\n": 2, "'\\\r": 2, "\"\\\r\n": 9, "'\\\n\r": 9, "\"\n\"": 9, "\"\v\f\t\u2028\x85": 1, "'/*": 2, "\"*/": 1, "\"url(": 1, "'url()": 2, "\"a\"'": 2, "'a'\"": 1, "'''": 2, "\"\"\"": 1, "\"\x00\xff": 1} {
		feeds(t, 0, "", s, want, "")
		feeds(t, 0, "url", s, want, "")
		feeds(t, 0, "?", s, want, "")
		feeds(t, 5, "", s, want, "")
	}
	feeds(t, 0, "", "\"a\"b", 0, "b")
}

func TestRemarks(t *testing.T) { // P16.1
	for _, s := range wholeComments() {
		for _, ahead := range []string{"", "x", "x ", "x:", ")", "\"a\"", "url", "url(a)", "/"} {
			feeds(t, 0, "", ahead+s, 0, "")
			feeds(t, 0, "?", ";"+ahead+s, 0, "")
			feeds(t, 0, "", ahead+s+"/", 5, "")
			feeds(t, 0, "", ahead+s+"(", 0, "")
			feeds(t, 0, "", ahead+s+"url(", 8, "")
			feeds(t, 0, "", ahead+s+s, 0, "")
		}
	}
	for s, want := range map[string]int{"/": 5, "//": 5, "///": 5, "/ ": 0, "/ /": 5, "/ *": 0, "//*": 6, "//**/": 0, "*/": 5, "*": 0, "/(": 0, "/\"": 1, "/'": 2, "/\\": 9, "/)": 0, "/\n": 0, "/*": 6, "/*/": 6, "/*a": 6, "/**": 7, "/***": 7, "/**a": 6, "/**a/": 6, "/**a*": 7, "/**/": 0, "/***/": 0, "/*a*/": 0, "/**a**/": 0, "/*\n": 6, "/*\r//": 6, "/*\"'": 6, "/*\\": 6, "/*\\*": 7, "/*\\*/": 0, "/*/*/": 0, "/*/*": 7, "/* * /": 6, "/**\n/": 6, "/**\\/": 6, "/*url(": 6, "/**/*": 0, "/**//": 5, "/**//*": 6} {
		feeds(t, 0, "", s, want, "")
		feeds(t, 0, "url", s, want, "")
		feeds(t, 0, "?", s, want, "")
		if rest, ok := strings.CutPrefix(s, "/"); ok && rest != "" {
			feeds(t, 5, "x", rest, want, "")
		}
	}
	feeds(t, 0, "ur", "/l", 0, "l")
	feeds(t, 0, "ur", "/l(", 0, "")
	feeds(t, 0, "", "/a", 0, "a")
	feeds(t, 0, "?", "/a", 0, "a")
	feeds(t, 0, "", "//a", 0, "a")
	for _, s := range oddTexts() {
		inside := strings.ReplaceAll(s, "*", "")
		feeds(t, 6, "x", "x"+inside, 6, "")
		feeds(t, 0, "", "/*x"+inside+"*/", 0, "")
	}
}

func TestWhatIsNotFollowed(t *testing.T) { // P16.1
	for _, ahead := range []string{"\\", "a\\", "url\\", "a:\\", "\"\"\\", "/\\", "/**/\\", "url()\\", "\"\n", "'\r", "\"a\r", "'\n", "\"\\\n\n"} {
		for _, word := range []string{"", "url", "?"} {
			feeds(t, 0, word, ahead, 9, "")
			for _, s := range oddTexts() {
				feeds(t, 0, word, ahead+s, 9, "")
			}
		}
	}
	for _, s := range oddTexts() {
		feeds(t, 0, "?", "("+s, 9, "")
		if s != "" {
			feeds(t, 9, "x", s, 9, "")
			feeds(t, 10, "", s, 9, "")
			feeds(t, -1, "url", s, 9, "")
		}
	}
	for _, whole := range []string{"\"\\\\\"", "'\\a'", "/*\\*/", "url(\\)", "/*\n*/", "url(\n)", "a\nb", "\"\\\n\""} { // no \ of plain styles, no newline of strings
		if part, _ := Feed(0, "", whole); part != 0 {
			t.Errorf("P16.1: Feed(0) of %q is %d", whole, part)
		}
	}
}

func TestFeedOfNone(t *testing.T) { // P16.1
	for _, part := range oddParts() {
		for _, word := range oddWords() {
			feeds(t, part, word, "", part, word)
		}
	}
}

func TestFeedOfOneOctet(t *testing.T) { // P16.1
	for _, part := range oddParts() {
		for _, word := range []string{"", "u", "ur", "url", "URL", "?", "x", long16[:15], long16, long16 + "g"} {
			for _, c := range []byte(every()) {
				want, wantWord := Step(part, word, c)
				feeds(t, part, word, string([]byte{c}), want, wantWord)
				asShould(t, part, word, string([]byte{c}))
			}
		}
	}
}

func TestFeedOfOddTexts(t *testing.T) { // P16.1
	for _, s := range oddTexts() {
		for _, part := range oddParts() {
			asShould(t, part, "", s)
			asShould(t, part, "url", s)
			asShould(t, part, "?", s)
			asShould(t, part, long16+"G", s)
		}
	}
	for _, word := range oddWords() {
		for _, s := range []string{"", "a", " ", "/", "l(", "rl(", "(", "((", "\"", ")", ":", " url(", "/**/(", long16, long16 + "("} {
			for _, part := range oddParts() {
				asShould(t, part, word, s)
			}
		}
	}
}

func TestFeedOfSmallTexts(t *testing.T) { // P16.1
	for s := range smallTexts(smallPieces(), 4) {
		asShould(t, 0, "", s)
		asShould(t, 0, "?", s)
		asShould(t, 5, "url", s)
	}
	for s := range smallTexts(smallPieces(), 3) {
		for _, part := range allParts() {
			asShould(t, part, "u", s)
			asShould(t, part, "url", s)
			asShould(t, part, "?", s)
		}
	}
}

func TestFeedOfTwoTextsIsOfBoth(t *testing.T) { // P16.1
	for s := range smallTexts(smallPieces(), 3) {
		for _, part := range allParts() {
			for _, word := range []string{"u", "?"} {
				want, wantWord := Feed(part, word, s)
				for at := range len(s) + 1 {
					middle, middleWord := Feed(part, word, s[:at])
					if got, gotWord := Feed(middle, middleWord, s[at:]); got != want || gotWord != wantWord {
						t.Fatalf("P16.1: Feed(%d, %s) of %q and then %q is %d, %q, of both %d, %q", part, word, s[:at], s[at:], got, gotWord, want, wantWord)
					}
				}
			}
		}
	}
	texts := oddTexts()
	for i, s := range texts {
		behind := texts[(i*7+3)%len(texts)]
		for _, part := range oddParts() {
			middle, word := Feed(part, "", s)
			want, wantWord := Feed(part, "", s+behind)
			feeds(t, middle, word, behind, want, wantWord)
		}
	}
}

func TestFeedIsStepByStep(t *testing.T) { // P16.1
	for _, s := range oddTexts() {
		for _, first := range oddParts() {
			part, word := first, "ur"
			for _, c := range []byte(s) {
				part, word = Step(part, word, c)
				if word != "" && part != 0 {
					t.Fatalf("P16.1: of %.60q a word %q is in part %d", s, word, part)
				}
			}
			feeds(t, first, "ur", s, part, word)
		}
	}
}

func TestHole(t *testing.T) { // P16.1
	if part, word, ok := Hole(0); part != 0 || word != "?" || !ok {
		t.Errorf("P16.1: Hole(0) is %d, %q, %t", part, word, ok)
	}
	for _, part := range oddParts() {
		if part == 0 {
			continue
		}
		if got, word, ok := Hole(part); got != part || word != "" || ok {
			t.Errorf("P16.1: Hole(%d) is %d, %q, %t", part, got, word, ok)
		}
	}
}

func TestActionsBehindStyles(t *testing.T) { // P16.1
	for s, want := range map[string]bool{"": true, "a:": true, "a: ": true, "a": true, "url": true, "a:b(": true, "a:b(c)": true, "a:url()": true, "a:\"\"": true, "/**/": true, "a{": true, "-": true, "#": true, "a:\"": false, "a:'b": false, "\"\\": false, "'\\": false, "/": false, "a:b/": false, "//": false, "/*": false, "/**": false, "a:url(": false, "a:URL(b": false, "\\": false, "\"\n": false, "'\r": false} {
		part, _ := Feed(0, "", s)
		got, word, ok := Hole(part)
		if ok != want || got != part || ok != (word == "?") {
			t.Errorf("P16.1: behind %q, in part %d, Hole is %d, %q, %t", s, part, got, word, ok)
		}
	}
}

// told are texts that csstext.Filter makes, of plain texts and of others.
func told() []string {
	var out []string
	for _, s := range append(append(oddTexts(), oddWords()...), "12px", "1.5em", "-0.5", "+1,2", "50%", "#FFAA00", "Times New Roman, serif", "ur", "rl", "ur l", "U", "RL", "u-rl", long16+long16, strings.Repeat("a", 4096), strings.Repeat("a", 4097), strings.Repeat(" -", 2048), csstext.Marker()) {
		out = append(out, csstext.Filter(s))
	}
	return out
}

func TestFilteredTextsLeadFromPlainToPlain(t *testing.T) { // P16.2
	for _, s := range told() {
		for _, word := range oddWords() {
			if got, _ := Feed(0, word, s); got != 0 {
				t.Errorf("P16.2: Feed(0, %.40q) of %.60q is %d", word, s, got)
			}
		}
		for _, ahead := range []string{"", "a:", "a: ", "b(", "url", "ur", "url()", "/**/", "\"a\""} {
			part, word := Feed(0, "", ahead+s)
			if part != 0 {
				t.Errorf("P16.2: Feed(0) of %.60q behind %q is %d", s, ahead, part)
			}
			if wantPart, wantWord := fed(0, "", ahead+s); part != wantPart || word != wantWord {
				t.Errorf("P16.2: Feed(0) of %.60q behind %q is %d, %q", s, ahead, part, word)
			}
		}
	}
	for s := range smallTexts([]string{"url", "R", "l", "expression", " ", "-", "7", "#", ";", "(", "\"", "/", "\\", "é"}, 4) {
		for _, word := range []string{"", "u", "ur", "url", "?", long16} {
			if got, _ := Feed(0, word, csstext.Filter(s)); got != 0 {
				t.Errorf("P16.2: Feed(0, %q) of %q, filtered, is %d", word, s, got)
			}
		}
	}
	for _, c := range []byte(every()) {
		s := csstext.Filter(string([]byte{c}))
		for _, word := range []string{"", "ur", "url", "?", long16} {
			if got, _ := Feed(0, word, s); got != 0 {
				t.Errorf("P16.2: Feed(0, %q) of %q, filtered, is %d", word, []byte{c}, got)
			}
		}
	}
}

func TestWhatFollowsAnActionStandsWhereItTells(t *testing.T) { // P16.1, P16.2
	followed := 0
	behind := oddTexts()
	for s := range smallTexts(smallPieces(), 2) {
		behind = append(behind, s)
	}
	for _, s := range behind {
		part, word, _ := Hole(0)
		want, _ := Feed(part, word, s)
		if want == 9 {
			continue
		}
		followed++
		for _, action := range []string{"", "12px", "u", "ur", "rl", "a b", "-", long16 + long16, csstext.Marker()} {
			for _, ahead := range []string{"", "a:", "a:u", "a:ur", "a:url", "a:x "} {
				if got, _ := Feed(0, "", ahead+action+s); got != want {
					t.Errorf("P16.2: %.60q behind %q and %.20q leads to %d, but behind any action to %d", s, ahead, action, got, want)
				}
			}
		}
	}
	if followed < 100 {
		t.Errorf("just %d texts may stand behind actions", followed)
	}
}

// libraryPart is the part of a style that a library's templates name where they refuse one that ends behind s.
func libraryPart(s string) string {
	page, err := template.New("").Parse("<style>" + s)
	if err == nil {
		err = page.Execute(&strings.Builder{}, nil)
	}
	if err == nil {
		return "none"
	}
	_, told, _ := strings.Cut(err.Error(), "state")
	part, _, _ := strings.Cut(told, " ")
	return part
}

// otherwise tells whether s has what the library reads another way: // as a remark, blanks and quotes in an address, a \ in plain styles.
func otherwise(s string) bool {
	for i := range len(s) {
		part, word := Feed(0, "", s[:i])
		switch {
		case part == 5 && s[i] == '/', part == 8 && strings.IndexByte("\"' \\", s[i]) >= 0, part == 0 && s[i] == '\\', part == 0 && word == "url" && s[i] == ' ':
			return true
		}
	}
	return false
}

func TestPartsAreAsALibraryHasThem(t *testing.T) { // P16.1
	names := map[int]string{0: "CSS", 1: "CSSDqStr", 2: "CSSSqStr", 5: "CSS", 6: "CSSBlockCmt", 7: "CSSBlockCmt", 8: "CSSURL"}
	seen := map[int]int{}
	for s := range smallTexts([]string{"url", "URL", "x", "-", "\"", "'", "\\", "/", "*", "(", ")", ";", " "}, 4) {
		part, _ := Feed(0, "", s)
		want, ok := names[part]
		if !ok || otherwise(s) {
			continue
		}
		seen[part]++
		if got := libraryPart(s); got != want {
			t.Errorf("P16.1: Feed(0) of %q is %d, which a library's templates call %s", s, part, got)
		}
	}
	for part := range names {
		if seen[part] < 20 {
			t.Errorf("just %d texts lead to %d", seen[part], part)
		}
	}
}

func TestExample1(t *testing.T) {
	if got, word := Feed(0, "", `a: "`); got != 1 || word != "" {
		t.Errorf("example 1: Feed(0) of a: \" is %d, %q", got, word)
	}
}
