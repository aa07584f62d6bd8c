package jsscan

import (
	"encoding/json"
	"html/template"
	"strconv"
	"strings"
	"testing"

	"muslin/api"
	"muslin/jstext"
	"muslin/literal"
	"muslin/octets"
	"muslin/values"
)

// steps tells whether Step is want and wantWord.
func steps(t *testing.T, part int, word string, c byte, want int, wantWord string) {
	t.Helper()
	if got, gotWord := Step(part, word, c); got != want || gotWord != wantWord {
		t.Errorf("P15.1: Step(%d, %.60q, %q) is %d, %.60q, not %d, %.60q", part, word, c, got, gotWord, want, wantWord)
	}
}

// feeds tells whether Feed is want and wantWord.
func feeds(t *testing.T, part int, word string, s string, want int, wantWord string) {
	t.Helper()
	if got, gotWord := Feed(part, word, s); got != want || gotWord != wantWord {
		t.Errorf("P15.1: Feed(%d, %.60q, %.60q) is %d, %.60q, not %d, %.60q", part, word, s, got, gotWord, want, wantWord)
	}
}

// asShould tells whether Feed is as the tests' own reading of the text.
func asShould(t *testing.T, part int, word string, s string) {
	t.Helper()
	want, wantWord := fed(part, word, s)
	feeds(t, part, word, s, want, wantWord)
}

func TestStepOfWords(t *testing.T) { // P15.1
	for _, c := range []byte(wordOctets()) {
		octet := string([]byte{c})
		for _, part := range []int{0, 1} {
			steps(t, part, "", c, 1, octet)
			steps(t, part, "x", c, 1, "x"+octet)
			steps(t, part, "return", c, 1, "return"+octet)
			steps(t, part, long16[:14], c, 1, long16[:14]+octet)
			steps(t, part, long16[:15], c, 1, long16[:15]+octet)
			steps(t, part, long16, c, 1, long16)
			steps(t, part, long16+"g", c, 1, long16+"g")
		}
	}
	if n := len(wordOctets()); n != 26+26+10+2+128 {
		t.Fatalf("%d octets", n)
	}
}

func TestStepWhereAValueMayCome(t *testing.T) { // P15.1
	for _, c := range but(wordOctets() + blanks + "\"'`/)]}") {
		for _, word := range append(oddWords(), "") {
			steps(t, 0, word, c, 0, "")
			steps(t, 1, word, c, 0, "")
		}
	}
	for c, want := range map[byte]int{'"': 2, '\'': 3, '`': 15, ')': 1, ']': 1, '}': 1} {
		for _, word := range oddWords() {
			steps(t, 0, word, c, want, "")
			steps(t, 1, word, c, want, "")
		}
	}
	for _, word := range oddWords() {
		steps(t, 0, word, '/', 13, "")
		for _, c := range []byte(blanks) {
			steps(t, 0, word, c, 0, "")
		}
	}
	for _, c := range []byte(blanks) {
		steps(t, 1, "", c, 1, "")
	}
	steps(t, 1, "", '/', 14, "")
	if len(blanks) != 5 {
		t.Fatal("blanks")
	}
}

func TestStepBehindWords(t *testing.T) { // P15.1
	if len(valueWords()) != 12 {
		t.Fatal("the list of words")
	}
	for _, word := range valueWords() {
		steps(t, 1, word, '/', 13, "")
		for _, c := range []byte(blanks) {
			steps(t, 1, word, c, 0, "")
		}
	}
	for _, word := range otherWords() {
		steps(t, 1, word, '/', 14, "")
		for _, c := range []byte(blanks) {
			steps(t, 1, word, c, 1, "")
		}
	}
	for _, word := range []string{"in ", " in", "return;", "/", ")", "\x00", every()} { // no call answers them
		steps(t, 1, word, '/', 14, "")
		steps(t, 1, word, ' ', 1, "")
	}
}

func TestStepWithinTexts(t *testing.T) { // P15.1
	for _, c := range []struct {
		part int
		of   map[byte]int
		rest int
	}{
		{2, map[byte]int{'"': 1, '\\': 4, '\n': 15, '\r': 15}, 2},
		{3, map[byte]int{'\'': 1, '\\': 5, '\n': 15, '\r': 15}, 3},
		{4, nil, 2},
		{5, nil, 3},
		{6, map[byte]int{'\n': 0, '\r': 0}, 6},
		{7, map[byte]int{'*': 8}, 7},
		{8, map[byte]int{'/': 0, '*': 8}, 7},
		{9, map[byte]int{'/': 1, '\\': 10, '[': 11, '\n': 15, '\r': 15}, 9},
		{10, nil, 9},
		{11, map[byte]int{']': 9, '\\': 12, '\n': 15, '\r': 15}, 11},
		{12, nil, 11},
		{13, map[byte]int{'/': 6, '*': 7, '\\': 10, '[': 11, '\n': 15, '\r': 15}, 9},
		{15, nil, 15},
	} {
		for _, o := range []byte(every()) {
			want, ok := c.of[o]
			if !ok {
				want = c.rest
			}
			for _, word := range []string{"", "x", "return", "in", long16, long16 + "g"} {
				steps(t, c.part, word, o, want, "")
			}
		}
	}
}

func TestStepBehindASlash(t *testing.T) { // P15.1
	for _, o := range []byte(every()) {
		for _, word := range []string{"", "x", "return", "in", long16, long16 + "g"} {
			switch o {
			case '/':
				steps(t, 13, word, o, 6, "")
				steps(t, 14, word, o, 6, "")
			case '*':
				steps(t, 13, word, o, 7, "")
				steps(t, 14, word, o, 7, "")
			default:
				want, wantWord := Step(9, word, o)
				steps(t, 13, word, o, want, wantWord)
				want, wantWord = Step(0, "", o)
				steps(t, 14, word, o, want, wantWord)
			}
		}
	}
	steps(t, 14, "retur", 'n', 1, "n")
	steps(t, 14, "", '"', 2, "")
	steps(t, 14, "", '\'', 3, "")
	steps(t, 14, "", '`', 15, "")
	steps(t, 14, "", ')', 1, "")
	steps(t, 14, "", ' ', 0, "")
	steps(t, 14, "", '=', 0, "")
}

func TestStepOfNoParts(t *testing.T) { // P15.1, P1
	for _, part := range append(noParts(), 15) {
		for _, c := range []byte(every()) {
			for _, word := range []string{"", "return", "x", long16 + long16} {
				steps(t, part, word, c, 15, "")
			}
		}
	}
}

func TestWordsOfOtherPartsCountAsEmpty(t *testing.T) { // P15.1
	for _, word := range oddWords() {
		for _, c := range []byte(every()) {
			for _, part := range oddParts() {
				if part == 0 || part == 1 {
					continue
				}
				want, wantWord := Step(part, "", c)
				steps(t, part, word, c, want, wantWord)
				if wantWord != "" && part != 14 {
					t.Errorf("P15.1: Step(%d) of %q answers a word", part, c)
				}
			}
		}
	}
}

func TestFeedOfWords(t *testing.T) { // P15.1
	for _, word := range append(valueWords(), otherWords()...) {
		for _, part := range []int{0, 1, 14} {
			feeds(t, part, "", word, 1, putTo("", word))
			for at := range len(word) {
				middle, way := Feed(part, "", word[:at])
				feeds(t, middle, way, word[at:], 1, putTo("", word))
			}
		}
	}
	for _, word := range valueWords() {
		for _, part := range []int{0, 1, 14} {
			for behind, want := range map[string]int{"/": 13, " ": 0, "\n": 0, " /": 13, "\t\f\r/": 13, "/a/": 1, "/a": 9, "//": 6, "/*": 7, "(": 0, "(/": 13, "[": 0, "{": 0, ";/": 13, ")": 1, ")/": 14, "]/": 14, "}/": 14, "\"": 2, "'": 3, "`": 15, ".": 0, "=/": 13, "\v/": 13, "\x00/": 13, "\"\"/": 14} {
				feeds(t, part, "", word+behind, want, "")
			}
			feeds(t, part, "", word+" x", 1, "x")
			feeds(t, part, "", word+" x/", 14, "")
			feeds(t, part, "", word+" "+word, 1, word)
			feeds(t, part, "", "a."+word+"/", 13, "")
		}
	}
	for _, word := range otherWords() {
		for _, part := range []int{0, 1, 14} {
			for behind, want := range map[string]int{"/": 14, " ": 1, "\n": 1, " /": 14, "\t\f\r/": 14, "/a/": 14, "//": 6, "/*": 7, "(": 0, "(/": 13, "[/": 13, "{/": 13, ";/": 13, ")": 1, ")/": 14, "]/": 14, "}/": 14, "\"": 2, "'": 3, "`": 15, "=/": 13, "\v/": 13, "\x00/": 13} {
				feeds(t, part, "", word+behind, want, "")
			}
			feeds(t, part, "", word+"/a", 1, "a")
			feeds(t, part, "", word+" in/", 13, "")
			feeds(t, part, "", word+" in /", 13, "")
		}
	}
}

func TestFeedOfLongWords(t *testing.T) { // P15.1
	feeds(t, 0, "", long16, 1, long16)
	feeds(t, 0, "", long16+"g", 1, long16)
	feeds(t, 0, "", long16+"return/", 14, "")
	feeds(t, 0, "", "returnreturnreturn/", 14, "")
	feeds(t, 1, long16[:15], "gh", 1, long16[:15]+"g")
	feeds(t, 1, long16, "gh", 1, long16)
	feeds(t, 1, long16+"ghi", "jk", 1, long16+"ghi")
	feeds(t, 0, long16+"ghi", "jk", 1, long16+"ghi")
	feeds(t, 1, long16+"ghi", "", 1, long16+"ghi")
	feeds(t, 1, long16+"ghi", "/", 14, "")
	feeds(t, 1, long16+"ghi", " ", 1, "")
	feeds(t, 1, long16+"ghi", " x", 1, "x")
	feeds(t, 0, "", strings.Repeat("é", 9), 1, strings.Repeat("é", 8))
	feeds(t, 0, "", "a"+strings.Repeat("é", 8), 1, "a"+strings.Repeat("é", 7)+"\xc3")
	feeds(t, 0, "", strings.Repeat(" ", 20)+"in", 1, "in")
	feeds(t, 1, "i", "n/", 13, "")
	feeds(t, 0, "instance", "of/", 13, "")
	feeds(t, 1, "retur", "ns/", 14, "")
}

func TestSlashes(t *testing.T) { // P15.1
	for _, value := range []string{"x", "1", "$", "_", "é", "\xff", "x ", "x\n", "f(x)", "f(x) ", "a[0]", "{}", "{}\n", ")", "]", "}", "\"a\"", "'a'", "\"a\" ", "/a/", "/a/g", "/a/ ", "x.y", "this", "null", "a=b", "++x", "return x", "return (x)", "in)", "in x"} {
		feeds(t, 0, "", value+"/", 14, "")
		feeds(t, 0, "", value+"/ ", 0, "")
		feeds(t, 0, "", value+"/2", 1, "2")
		feeds(t, 0, "", value+"/=", 0, "")
		feeds(t, 0, "", value+"/\"", 2, "")
		feeds(t, 0, "", value+"/(", 0, "")
		feeds(t, 0, "", value+"//", 6, "")
		feeds(t, 0, "", value+"/*", 7, "")
		feeds(t, 0, "", value+"/in/", 13, "")
		feeds(t, 0, "", value+"/ /", 13, "")
	}
	for _, ahead := range []string{"", " ", "\n", "(", "[", "{", ";", ",", "=", "+", "-", "*", "!", "~", "?", ":", "<", ">", "&", "|", "^", "%", ".", "@", "#", "\\", "\x00", "\x7f", "\v", "x=", "x= ", "x +", "++", "x++", "return ", "return", "in\t", "(typeof", "/**/", "//\n", "x//\n", "x/**/", "x/*a*/ ", "x/ ", "=>", "else", "do", "\u00a0=", "a.in", "void\n"} {
		feeds(t, 0, "", ahead+"/", 13, "")
		feeds(t, 0, "", ahead+"/a", 9, "")
		feeds(t, 0, "", ahead+"/=", 9, "")
		feeds(t, 0, "", ahead+"/a/", 1, "")
		feeds(t, 0, "", ahead+"/a/g", 1, "g")
		feeds(t, 0, "", ahead+"/ /", 1, "")
		feeds(t, 0, "", ahead+"/\"/", 1, "")
		feeds(t, 0, "", ahead+"/[", 11, "")
		feeds(t, 0, "", ahead+"/\\", 10, "")
		feeds(t, 0, "", ahead+"/\n", 15, "")
		feeds(t, 0, "", ahead+"/\r", 15, "")
		feeds(t, 0, "", ahead+"//", 6, "")
		feeds(t, 0, "", ahead+"/*", 7, "")
	}
}

func TestStrings(t *testing.T) { // P15.1
	for _, s := range wholeStrings() {
		for _, ahead := range []string{"", "x", "x=", " ", "f(", "return", "x/", "/a/", "/**/", "\"\"", "''"} {
			feeds(t, 0, "", ahead+s, 1, "")
			feeds(t, 1, "", ahead+s, 1, "")
		}
	}
	for s, want := range map[string]int{"\"": 2, "'": 3, "\"'": 2, "'\"": 3, "\"a'b'c": 2, "'a\"b\"c": 3, "\"\\": 4, "'\\": 5, "\"\\\"": 2, "'\\'": 3, "\"\\\\": 2, "\"\\\\\"": 1, "'\\\\'": 1, "\"\n": 15, "\"\r": 15, "'\n": 15, "'\r": 15, "\"\\\n": 2, "\"\\\r": 2, "'\\\n": 3, "'\\\r": 3, "\"\\\r\n": 15, "\"\n\"": 15, "\"\v\f\t\u2028": 2, "'`/*//": 3, "\"`": 2, "\"a\"b": 1, "\"a\"'": 3, "'a'\"": 2, "'''": 3, "\"\"\"": 2} {
		word := ""
		if s == "\"a\"b" {
			word = "b"
		}
		feeds(t, 0, "", s, want, word)
		feeds(t, 1, "in", s, want, word)
		feeds(t, 14, "", s, want, word)
	}
}

func TestPatterns(t *testing.T) { // P15.1
	for _, s := range wholePatterns() {
		for _, ahead := range []string{"", "x=", " ", "f(", "return", "return ", "/**/", "//\n", "x/ "} {
			feeds(t, 0, "", ahead+s, 1, "")
			feeds(t, 0, "", ahead+s+"gi", 1, "gi")
			feeds(t, 0, "", ahead+s+"/", 14, "")
		}
		feeds(t, 9, "", s[1:], 1, "")
	}
	for s, want := range map[string]int{"/a": 9, "/[": 11, "/[a": 11, "/[a]": 9, "/[/": 11, "/[/]": 9, "/[\\": 12, "/[\\]": 11, "/[\\]/": 11, "/[\\]]": 9, "/[\\\\]": 9, "/[[]": 9, "/[]": 9, "/\\": 10, "/\\/": 9, "/\\[": 9, "/\\[/": 1, "/\\\\": 9, "/\\\\/": 1, "/a\n": 15, "/a\r": 15, "/[\n": 15, "/[\r": 15, "/\\\n": 9, "/\\\r": 9, "/[\\\n": 11, "/[\\\r": 11, "/a*/": 1, "/[*/": 11, "/a//": 14, "/\"": 9, "/'": 9, "/`": 9, "/a\v\f\t": 9, "/)": 9, "/]": 9} {
		feeds(t, 0, "", s, want, "")
		feeds(t, 1, "", "="+s, want, "")
		feeds(t, 1, "in", s, want, "")
		feeds(t, 13, "in", s[1:], want, "")
	}
}

func TestComments(t *testing.T) { // P15.1
	for _, s := range wholeComments() {
		for _, ahead := range []string{"", "x", "x ", "x=", ")", "\"a\"", "return", "in "} {
			feeds(t, 0, "", ahead+s, 0, "")
			feeds(t, 1, "", ahead+s, 0, "")
			feeds(t, 0, "", ahead+s+"/", 13, "")
			feeds(t, 0, "", ahead+s+s, 0, "")
		}
	}
	for s, want := range map[string]int{"//": 6, "//a": 6, "//\"'`": 6, "///": 6, "//*": 6, "//*/": 6, "//\\": 6, "//\v\f\u2028": 6, "//\n": 0, "//\r": 0, "//\\\n": 0, "//\n/": 13, "/*": 7, "/*/": 7, "/*a": 7, "/**": 8, "/***": 8, "/**a": 7, "/**a/": 7, "/**/": 0, "/***/": 0, "/*a*/": 0, "/**a**/": 0, "/*\n": 7, "/*\r//": 7, "/*\"'`\\": 7, "/*\\*": 8, "/*\\*/": 0, "/*/*/": 0, "/* * /": 7, "/**\n/": 7, "/**\\/": 7} {
		for _, part := range []int{0, 1} {
			feeds(t, part, "", s, want, "")
			feeds(t, part, "in", s, want, "")
			feeds(t, part, "x", s, want, "")
		}
		feeds(t, 13, "", s[1:], want, "")
		feeds(t, 14, "", s[1:], want, "")
	}
	for _, s := range oddTexts() {
		feeds(t, 6, "x", "x"+strings.NewReplacer("\n", "", "\r", "").Replace(s), 6, "")
	}
}

func TestWhatCantBeFollowed(t *testing.T) { // P15.1
	for _, ahead := range []string{"`", "x`", "=`", "return`", "return `", ")`", "x/`", "\"a\"`", "/a/`", "\"\n", "'\r", "/a\n", "/[\n"} {
		feeds(t, 0, "", ahead, 15, "")
		for _, s := range oddTexts() {
			feeds(t, 0, "", ahead+s, 15, "")
		}
	}
	for _, s := range oddTexts() {
		if s != "" {
			feeds(t, 15, "x", s, 15, "")
			feeds(t, 16, "", s, 15, "")
			feeds(t, -1, "in", s, 15, "")
		}
	}
	for _, whole := range []string{"\"`\"", "'`'", "/`/", "/[`]/", "//`\n", "/*`*/"} { // no ` of code
		if part, _ := Feed(0, "", whole); part > 1 {
			t.Errorf("P15.1: Feed(0) of %q is %d", whole, part)
		}
	}
}

func TestFeedOfNone(t *testing.T) { // P15.1
	for _, part := range oddParts() {
		for _, word := range oddWords() {
			feeds(t, part, word, "", part, word)
		}
	}
}

func TestFeedOfOneOctet(t *testing.T) { // P15.1
	for _, part := range oddParts() {
		for _, word := range []string{"", "i", "in", "return", "Return", "x", long16[:15], long16, long16 + "g"} {
			for _, c := range []byte(every()) {
				want, wantWord := Step(part, word, c)
				feeds(t, part, word, string([]byte{c}), want, wantWord)
				asShould(t, part, word, string([]byte{c}))
			}
		}
	}
}

func TestFeedOfOddTexts(t *testing.T) { // P15.1
	for _, s := range oddTexts() {
		for _, part := range oddParts() {
			asShould(t, part, "", s)
			asShould(t, part, "in", s)
			asShould(t, part, long16+"G", s)
		}
	}
	for _, word := range oddWords() {
		for _, s := range []string{"", "a", " ", "/", "n/", "\"", ")", "=", " /a/", long16, long16 + "/"} {
			for _, part := range oddParts() {
				asShould(t, part, word, s)
			}
		}
	}
}

func TestFeedOfSmallTexts(t *testing.T) { // P15.1
	for s := range smallTexts(smallPieces(), 4) {
		for _, part := range []int{0, 1, 14} {
			asShould(t, part, "", s)
		}
	}
	for s := range smallTexts(smallPieces(), 3) {
		for _, part := range allParts() {
			asShould(t, part, "in", s)
			asShould(t, part, "", s)
		}
	}
}

func TestFeedOfTwoTextsIsOfBoth(t *testing.T) { // P15.1
	for s := range smallTexts(smallPieces(), 3) {
		for _, part := range allParts() {
			want, wantWord := Feed(part, "i", s)
			for at := range len(s) + 1 {
				middle, word := Feed(part, "i", s[:at])
				if got, gotWord := Feed(middle, word, s[at:]); got != want || gotWord != wantWord {
					t.Fatalf("P15.1: Feed(%d, i) of %q and then %q is %d, %q, of both %d, %q", part, s[:at], s[at:], got, gotWord, want, wantWord)
				}
			}
		}
	}
	texts := oddTexts()
	for i, s := range texts {
		behind := texts[(i*7+3)%len(texts)]
		for _, part := range oddParts() {
			middle, word := Feed(part, "", s)
			want, wantWord := Feed(part, "", s+behind)
			feeds(t, middle, word, behind, want, wantWord)
		}
	}
}

func TestFeedIsStepByStep(t *testing.T) { // P15.1
	for _, s := range oddTexts() {
		for _, first := range oddParts() {
			part, word := first, "in"
			for _, c := range []byte(s) {
				part, word = Step(part, word, c)
				if word != "" && part != 1 {
					t.Fatalf("P15.1: of %.60q a word %q is in part %d", s, word, part)
				}
			}
			feeds(t, first, "in", s, part, word)
		}
	}
}

func TestHole(t *testing.T) { // P15.2
	wants := [][2]int{{1, 1}, {1, 1}, {2, 2}, {3, 2}, {4, 0}, {5, 0}, {6, 0}, {7, 0}, {8, 0}, {9, 0}, {10, 0}, {11, 0}, {12, 0}, {13, 0}, {14, 0}, {15, 0}}
	if len(wants) != len(allParts()) {
		t.Fatal("parts")
	}
	for _, word := range oddWords() {
		for part, want := range wants {
			if got, kind := Hole(part, word); got != want[0] || kind != want[1] {
				t.Errorf("P15.2: Hole(%d, %.40q) is %d, %d, not %d, %d", part, word, got, kind, want[0], want[1])
			}
		}
		for _, part := range noParts() {
			if got, kind := Hole(part, word); got != part || kind != 0 {
				t.Errorf("P15.2: Hole(%d, %.40q) is %d, %d, not %d, 0", part, word, got, kind, part)
			}
		}
	}
}

func TestActionsBehindScripts(t *testing.T) { // P15.1, P15.2
	for s, want := range map[string]int{"": 1, "f(": 1, "x = ": 1, "x": 1, "return ": 1, "return": 1, "f(a)": 1, "\"": 2, "x=\"a": 2, "'": 2, "f('a": 2, "\"a\"": 1, "\"\\": 0, "'\\": 0, "//": 0, "//a\n": 1, "/*": 0, "/**": 0, "/**/": 1, "/": 0, "/a": 0, "/[": 0, "/a/": 1, "x/": 0, "x/ ": 1, "`": 0, "\"\n": 0} {
		part, word := Feed(0, "", s)
		if _, kind := Hole(part, word); kind != want {
			t.Errorf("P15.2: behind %q an action is of kind %d, not %d", s, kind, want)
		}
	}
}

// isLiteral tells whether Literal is want.
func isLiteral(t *testing.T, s string, want bool) {
	t.Helper()
	if got := Literal(s); got != want {
		t.Errorf("P15.2: Literal(%.80q) is %t", s, got)
	}
}

// around are blanks for either end.
func around() []string {
	return []string{"", " ", "\t", "\n", "\f", "\r", "  ", "\t\n\f\r ", "\r\n", strings.Repeat(" \n", 50)}
}

func TestLiteral(t *testing.T) { // P15.2
	for _, s := range []string{"null", "false", "true", "0", "1", "10", "9223372036854775807", "-1", "-10", "-9223372036854775808", `""`, `"a"`, `" "`, `"A z_.,0"`, `"\u0022"`, `"\u003c\u002fscript\u003e"`, `"\ud83d\ude00"`, `"\u00e9"`, "[]", "[null]", "[1,2]", "[ -1]", "[ -1, -2]", "[[],[]]", `["a",{"b":1}]`, "{}", `{"a":1}`, `{"a": -1,"b":[]}`, `{"":""}`, `{1}`, `{"a"}`, `{"a":1,2}`, strings.Repeat("[", 16) + strings.Repeat("]", 16)} {
		for _, ahead := range around() {
			for _, behind := range around() {
				isLiteral(t, ahead+s+behind, true)
			}
		}
	}
}

func TestLiteralOfWhatIsNone(t *testing.T) { // P15.2
	for _, s := range []string{"", "-", "- 1", "--1", "-0", "-01", "00", "01", "+1", "1.5", "1e5", "0x1", "9223372036854775808", "-9223372036854775809", "1 2", "1,2", "1;", "(1)", "null null", "nullnull", "Null", "NULL", "nul", "nulll", "True", "fals", "undefined", "NaN", "Infinity", "x", "f()", "`a`", "'a'", "''", `"`, `"a`, `a"`, `"a"b`, `"a""b"`, `"a" "b"`, `"é"`, `"\u00E9"`, `"\u0041"`, `"\x22"`, `"\""`, `"\n"`, `"<"`, `"a-b"`, `"a/b"`, `"\ud83d"`, `"\ude00\ud83d"`, "\"a\nb\"", `"\u00"`, "[", "]", "[1", "1]", "[1,]", "[,1]", "[1 ]", "[ 1]", "[1, 2]", "[-1]", "[  -1]", "[1,-2]", "[]]", "[][]", "[[]", "{", "}", `{"a":}`, `{"a":1`, `{"a": 1}`, `{"a":-1}`, `{a:1}`, `{'a':1}`, `{"a":1,}`, `{1,"a":2}`, `{} {}`, "//", "null//", "null/**/", "/a/", "null;", "\v1", "1\v", "\x001", "1\x00", "\u00a01", "1\u00a0", "\ufeffnull", "null\u2028", "\xff", every(), "-\t1", "-null", `-"a"`, "-[]", strings.Repeat("[", 17) + strings.Repeat("]", 17), strings.Repeat("[", 1000) + strings.Repeat("]", 1000), strings.Repeat("[", 100)} {
		for _, ahead := range around() {
			for _, behind := range around() {
				isLiteral(t, ahead+s+behind, false)
			}
		}
	}
}

func TestLiteralIsWhatTheLibraryOfValuesReads(t *testing.T) { // P15.2
	for _, v := range someValues() {
		s := literal.Literal(v)
		_, _, err := literal.Read(s)
		for _, ahead := range around() {
			for _, behind := range around() {
				isLiteral(t, ahead+s+behind, err == api.OK)
			}
		}
		if values.Check(v) == api.OK && !Literal(s) {
			t.Errorf("P15.2: the literal %.80q of a value that may be is none", s)
		}
	}
	for _, s := range oddTexts() {
		trimmed := octets.Trim(s)
		_, _, err := literal.Read(trimmed)
		_, _, errBehindBlank := literal.Read(" " + trimmed)
		isLiteral(t, s, err == api.OK || errBehindBlank == api.OK)
	}
}

func TestLiteralOfSmallTexts(t *testing.T) { // P15.2
	for s := range smallTexts([]string{"null", "1", "0", "-", "\"", "a", "[", "]", ",", " ", "\n", "-1", "\\u0022", "true", " -1"}, 4) {
		want := literals.MatchString(s)
		if strings.Contains(s, "[") { // the expression knows few lists: the others are asked of literal.Read
			_, _, err := literal.Read(octets.Trim(s))
			want = err == api.OK
		}
		isLiteral(t, s, want)
	}
}

func TestLiteralsLeadToBehindAValue(t *testing.T) { // P15.3
	for _, v := range someValues() {
		s := literal.Literal(v)
		for _, ahead := range around() {
			for _, behind := range around() {
				for _, part := range []int{0, 1, 14} {
					if got, _ := Feed(part, "", ahead+s+behind); got != 1 {
						t.Fatalf("P15.3: Feed(%d) of %.60q between %q and %q is %d", part, s, ahead, behind, got)
					}
				}
			}
		}
		for _, ahead := range []string{"f(", "x = ", "return ", "return", "(", "x,", "[", "{a:", "case ", "x in ", "!", "/**/", "//\n", "x/ "} {
			if got, _ := Feed(0, "", ahead+" "+s+" "); got != 1 {
				t.Fatalf("P15.3: Feed(0) of %.60q behind %q is %d", s, ahead, got)
			}
			feeds(t, 0, "", ahead+" "+s+" /", 14, "")
		}
	}
	for _, s := range oddTexts() {
		for _, part := range []int{0, 1} {
			if got, _ := Feed(part, "", s); Literal(s) && got != 1 {
				t.Errorf("P15.3: the literal %.60q leads from %d to %d", s, part, got)
			}
		}
	}
}

func TestEscapedTextsStayInTheirString(t *testing.T) { // P15.4
	for _, s := range append(oddTexts(), oddWords()...) {
		escaped := jstext.Escape(s)
		for at := range len(escaped) + 1 {
			if at > 64 && at < len(escaped) { // long texts: their beginnings and the whole
				continue
			}
			for quote, part := range map[string]int{"\"": 2, "'": 3} {
				got, _ := Feed(0, "", quote+escaped[:at])
				signs := len(escaped[:at]) - len(strings.TrimRight(escaped[:at], "\\"))
				if want := part + 2*(signs%2); got != want {
					t.Errorf("P15.4: Feed of %.60q behind %s is %d, not %d", escaped[:at], quote, got, want)
				}
			}
		}
		for quote, part := range map[string]int{"\"": 2, "'": 3} {
			feeds(t, part, "", escaped, part, "")
			feeds(t, part, "", escaped+quote, 1, "")
			feeds(t, 0, "", "x = "+quote+escaped+quote+"/", 14, "")
		}
	}
}

func TestStringsOfOtherLibraries(t *testing.T) { // P15.1
	for _, s := range oddTexts() {
		feeds(t, 0, "", strconv.Quote(s), 1, "")
		feeds(t, 1, "", strconv.QuoteToASCII(s)+"/", 14, "")
		told, err := json.Marshal(map[string]any{s: []any{s, -1, nil, true, 1.5, map[string]any{}}})
		if err != nil {
			t.Fatal(err)
		}
		feeds(t, 0, "", string(told), 1, "")
		feeds(t, 1, "", string(told)+"/", 14, "")
	}
}

// libraryPart is the part of a script that a library's templates name where they refuse one that ends behind s.
func libraryPart(s string) string {
	page, err := template.New("").Parse("<script>" + s)
	if err == nil {
		err = page.Execute(&strings.Builder{}, nil)
	}
	if err == nil {
		return "none"
	}
	if strings.Contains(err.Error(), "unfinished JS regexp charset") {
		return "charset"
	}
	_, told, _ := strings.Cut(err.Error(), "state")
	part, _, _ := strings.Cut(told, " ")
	return part
}

// signInCode tells whether s has a \ in code, where the library goes another way.
func signInCode(s string) bool {
	for i, c := range []byte(s) {
		if part, _ := Feed(0, "", s[:i]); c == '\\' && (part < 2 || part == 14) {
			return true
		}
	}
	return false
}

func TestPartsAreAsALibraryHasThem(t *testing.T) { // P15.1
	names := map[int]string{0: "JS", 1: "JS", 2: "JSDqStr", 3: "JSSqStr", 6: "JSLineCmt", 7: "JSBlockCmt", 8: "JSBlockCmt", 9: "JSRegexp", 11: "charset", 13: "JSRegexp", 14: "JS"}
	seen := map[int]int{}
	for s := range smallTexts([]string{"x", "return", "\"", "'", "\\", "/", "*", "[", "]", "\n", " ", "(", ")", "="}, 4) {
		part, _ := Feed(0, "", s)
		want, ok := names[part]
		if !ok || signInCode(s) {
			continue
		}
		seen[part]++
		if got := libraryPart(s); got != want {
			t.Errorf("P15.1: Feed(0) of %q is %d, which a library's templates call %s", s, part, got)
		}
	}
	for part := range names {
		if seen[part] < 20 {
			t.Errorf("just %d texts lead to %d", seen[part], part)
		}
	}
}

func TestExample1(t *testing.T) {
	if got, word := Feed(0, "", `x = "`); got != 2 || word != "" {
		t.Errorf("example 1: Feed(0) of x = \" is %d, %q", got, word)
	}
}
