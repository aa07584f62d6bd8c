package urlscan

import (
	"net/url"
	"strings"
	"testing"

	"muslin/schemes"
)

// steps tells whether Step is want and wantWord.
func steps(t *testing.T, part int, word string, c byte, want int, wantWord string) {
	t.Helper()
	if got, gotWord := Step(part, word, c); got != want || gotWord != wantWord {
		t.Errorf("P14.1: Step(%d, %.60q, %q) is %d, %.60q, not %d, %.60q", part, word, c, got, gotWord, want, wantWord)
	}
}

// feeds tells whether Feed is want and wantWord.
func feeds(t *testing.T, part int, word string, s string, want int, wantWord string) {
	t.Helper()
	if got, gotWord := Feed(part, word, s); got != want || gotWord != wantWord {
		t.Errorf("P14.1: Feed(%d, %.60q, %.60q) is %d, %.60q, not %d, %.60q", part, word, s, got, gotWord, want, wantWord)
	}
}

// asShould tells whether Feed is as the tests' own reading of the text.
func asShould(t *testing.T, part int, word string, s string) {
	t.Helper()
	want, wantWord := fed(part, word, s)
	feeds(t, part, word, s, want, wantWord)
}

// otherOctets are those but / ? # : .
func otherOctets() []byte {
	return []byte(strings.NewReplacer("/", "", "?", "", "#", "", ":", "").Replace(every()))
}

func TestStepWhereOctetsPart(t *testing.T) { // P14.1
	for _, c := range []struct {
		octet string
		of    [6]int // of the parts 0 to 5
	}{
		{"/", [6]int{2, 2, 2, 3, 2, 5}},
		{"?", [6]int{3, 3, 3, 3, 3, 5}},
		{"#", [6]int{3, 3, 3, 3, 3, 5}},
		{":", [6]int{5, 5, 2, 3, 5, 5}},
	} {
		for part, want := range c.of {
			steps(t, part, "", c.octet[0], want, "")
			steps(t, part, "javascript", c.octet[0], want, "")
		}
	}
}

func TestStepOfOtherOctets(t *testing.T) { // P14.1
	others := otherOctets()
	if len(others) != 252 {
		t.Fatalf("%d octets", len(others))
	}
	for _, c := range others {
		small := smallOf(string([]byte{c}))
		steps(t, 0, "", c, 1, small)
		steps(t, 1, "", c, 1, small)
		steps(t, 1, "http", c, 1, "http"+small)
		steps(t, 1, long16[:15], c, 1, long16[:15]+small)
		steps(t, 1, long16, c, 1, long16)
		for _, part := range []int{2, 3, 4, 5} {
			steps(t, part, "", c, part, "")
			steps(t, part, "http", c, part, "")
		}
	}
}

func TestStepOfNoParts(t *testing.T) { // P14.1, P1
	for _, part := range noParts() {
		for _, c := range []byte(every()) {
			for _, word := range []string{"", "http", "x", long16 + long16} {
				steps(t, part, word, c, 5, "")
			}
		}
	}
}

func TestGreatLetters(t *testing.T) { // P14.1
	for i := range 26 {
		great, small := byte('A'+i), string([]byte{byte('a' + i)})
		steps(t, 0, "", great, 1, small)
		steps(t, 1, "", great, 1, small)
		steps(t, 1, "ab", great, 1, "ab"+small)
	}
	steps(t, 1, "AB", 'C', 1, "ABc") // what is handed in stays as it is
	steps(t, 1, "HTTP", ':', 5, "")  // and no call has it great
	for _, c := range "@[`{" {
		steps(t, 0, "", byte(c), 1, string(c))
	}
	feeds(t, 0, "", "AbCdEfGhIjKlMnO", 1, "abcdefghijklmno")
	feeds(t, 0, "", "\xc0\xc9\xde\xff", 1, "\xc0\xc9\xde\xff")
	feeds(t, 0, "", "ÉÅK", 1, "ÉÅk")
}

func TestWordsOfOtherPartsCountAsEmpty(t *testing.T) { // P14.1
	for _, word := range oddWords() {
		for _, c := range []byte(every()) {
			for _, part := range oddParts() {
				if part == 1 {
					continue
				}
				want, wantWord := Step(part, "", c)
				steps(t, part, word, c, want, wantWord)
			}
		}
		steps(t, 0, word, ':', 5, "")
		steps(t, 0, word, '/', 2, "")
		steps(t, 0, word, 'x', 1, "x")
	}
}

func TestColon(t *testing.T) { // P14.1
	for _, scheme := range schemesAllowed() {
		feeds(t, 0, "", scheme, 1, smallOf(scheme))
		feeds(t, 0, "", scheme+":", 2, "")
		feeds(t, 1, "", scheme+":", 2, "")
		feeds(t, 4, "", scheme+":", 5, "")
		steps(t, 1, smallOf(scheme), ':', 2, "")
		for at := range len(scheme) {
			feeds(t, 1, smallOf(scheme[:at]), scheme[at:]+":", 2, "")
			feeds(t, 0, smallOf(scheme[:at]), scheme[at:]+":", oneOf(at == 0, 2, 5), "")
		}
	}
	for _, scheme := range schemesRefused() {
		feeds(t, 0, "", scheme+":", 5, "")
		feeds(t, 1, "", scheme+":", 5, "")
		feeds(t, 4, "", scheme+":", 5, "")
		steps(t, 1, scheme, ':', 5, "")
	}
	for _, part := range []int{0, 1, 4} {
		steps(t, part, "", ':', 5, "")
	}
}

func oneOf(good bool, a int, b int) int {
	if good {
		return a
	}
	return b
}

func TestColonBehindWhatIsCloseToAScheme(t *testing.T) { // P14.1
	for _, scheme := range []string{"http", "https", "mailto"} {
		for at := range len(scheme) + 1 {
			for _, c := range []byte(every()) {
				octet := string([]byte{c})
				near := []string{scheme[:at] + octet + scheme[at:]}
				if at < len(scheme) {
					near = append(near, scheme[:at]+octet+scheme[at+1:], scheme[:at]+scheme[at+1:])
				}
				for _, s := range near {
					asShould(t, 0, "", s+":")
					asShould(t, 0, "", s)
				}
			}
		}
	}
}

func TestWordsAsLongAsTheyMayBe(t *testing.T) { // P14.1
	for size := range 40 {
		word := strings.Repeat("w", size)
		for _, c := range []struct{ octet, small string }{{"a", "a"}, {"Z", "z"}, {"\xff", "\xff"}, {"\x00", "\x00"}, {" ", " "}} {
			want := word
			if size < 16 {
				want += c.small
			}
			steps(t, 1, word, c.octet[0], 1, want)
		}
		steps(t, 1, word, ':', 5, "")
		steps(t, 1, word, '/', 2, "")
		steps(t, 1, word, '?', 3, "")
		steps(t, 1, word, '#', 3, "")
		feeds(t, 0, "", word, oneOf(size == 0, 0, 1), strings.Repeat("w", min(size, 16)))
		feeds(t, 1, word, "XYZ", 1, putTo(word, "XYZ"))
		feeds(t, 0, "", word+"XYZ:", 5, "")
	}
	feeds(t, 0, "", long16+"ghi", 1, long16)
	feeds(t, 0, "", long16[:15]+"G", 1, long16[:15]+"g")
	feeds(t, 1, long16, "ghi", 1, long16)
	feeds(t, 1, long16+"GHI", "jkl", 1, long16+"GHI") // more than there may be stays as it is handed in
	feeds(t, 1, strings.Repeat("W", 1000), "x", 1, strings.Repeat("W", 1000))
	feeds(t, 0, "", strings.Repeat("é", 9), 1, strings.Repeat("é", 8))
	feeds(t, 0, "", "a"+strings.Repeat("é", 9), 1, "a"+strings.Repeat("é", 7)+"\xc3")
}

func TestFeedOfNone(t *testing.T) { // P14.1
	for _, part := range oddParts() {
		for _, word := range append(oddWords(), "") {
			feeds(t, part, word, "", part, word)
		}
	}
}

func TestFeedOfOneOctet(t *testing.T) { // P14.1
	for _, part := range oddParts() {
		for _, word := range []string{"", "h", "http", "mailto", "HTTP", long16[:15], long16, long16 + "g"} {
			for _, c := range []byte(every()) {
				want, wantWord := Step(part, word, c)
				feeds(t, part, word, string([]byte{c}), want, wantWord)
				asShould(t, part, word, string([]byte{c}))
			}
		}
	}
}

func TestFeedOfURLs(t *testing.T) { // P14.1
	for _, c := range []struct {
		s    string
		want int
		word string
	}{
		{"/a?b", 3, ""}, {"/a", 2, ""}, {"/", 2, ""}, {"a", 1, "a"}, {"a/b", 2, ""}, {"a.html", 1, "a.html"}, {"?q", 3, ""}, {"#top", 3, ""}, {"a?b", 3, ""}, {"a#b", 3, ""},
		{"http://example.org/a/b", 2, ""}, {"http://example.org/a?b=c", 3, ""}, {"https://x:80/y", 2, ""}, {"https:x", 2, ""}, {"HTTP://X#y", 3, ""}, {"mailto:a@b", 2, ""}, {"MailTo:a@b?subject=c", 3, ""}, {"http:", 2, ""}, {"http:/", 2, ""}, {"http:?", 3, ""}, {"http:#", 3, ""}, {"http::", 2, ""}, {"http:javascript:x", 2, ""},
		{"javascript:alert(1)", 5, ""}, {"JAVASCRIPT:x/y?z#w", 5, ""}, {"data:text/html,x", 5, ""}, {"tel:1", 5, ""}, {":", 5, ""}, {":/", 5, ""}, {"a:http://x/", 5, ""}, {"localhost:80/", 5, ""}, {"averyveryverylongscheme:x", 5, ""}, {"http javascript:x", 5, ""}, {" http://x/", 5, ""},
		{"//x/y", 2, ""}, {"//x:80/y", 2, ""}, {"/javascript:x", 2, ""}, {"./javascript:x", 2, ""}, {"?javascript:x", 3, ""}, {"#javascript:x", 3, ""}, {"javascript/:x", 2, ""}, {"javascript?:x", 3, ""}, {"javascript#:x", 3, ""}, {"javascript%3ax", 1, "javascript%3ax"}, {"&#104;ttp:", 3, ""}, {"javascript", 1, "javascript"}, {"javascript%3Aalert(1)", 1, "javascript%3aale"},
	} {
		feeds(t, 0, "", c.s, c.want, c.word)
		if c.s != "" {
			feeds(t, 1, "", c.s, c.want, c.word)
		}
		feeds(t, 3, "", c.s, 3, "")
		feeds(t, 5, "", c.s, 5, "")
		feeds(t, 2, "", c.s, partOf(c.s, "?#", 2), "")
	}
}

func TestFeedBehindAnAction(t *testing.T) { // P14.1, P14.2
	for s, want := range map[string]int{
		"a": 4, "http": 4, "%3a": 4, "\x00": 4, "é": 4, ".html": 4, strings.Repeat("a", 100): 4, "/": 2, "a/b": 2, "/a:b": 2, "a/b?c": 3, "?a": 3, "#a": 3, "a?b:c": 3, "a#:": 3, ":": 5, "a:": 5, "http:": 5, "https://x/": 5, "mailto:a": 5, "s:": 5, ":/": 5, ":?": 5, ":#": 5,
	} {
		part, kind := Hole(0)
		if part != 4 || kind != 1 {
			t.Fatalf("P14.2: Hole(0) is %d, %d", part, kind)
		}
		feeds(t, part, "", s, want, "")
		feeds(t, part, "http", s, want, "")
	}
}

func TestFeedBehindMarksOfQueries(t *testing.T) { // P14.1
	for _, ahead := range []string{"?", "#", "a?", "a#", "/?", "/#", "http:?", "http://x/y#", "//?", "?#", "#?"} {
		for _, s := range oddTexts() {
			feeds(t, 0, "", ahead+s, 3, "")
		}
	}
	for _, s := range oddTexts() {
		feeds(t, 3, "", s, 3, "")
	}
}

func TestFeedOfOddTexts(t *testing.T) { // P14.1
	for _, s := range oddTexts() {
		for _, part := range oddParts() {
			asShould(t, part, "", s)
			asShould(t, part, "http", s)
			asShould(t, part, long16[:15], s)
			asShould(t, part, long16+"G", s)
		}
	}
	for _, word := range oddWords() {
		for _, s := range []string{"", "a", "S", ":", "s:", "/", "?", "#", "x:/", long16} {
			for _, part := range oddParts() {
				asShould(t, part, word, s)
			}
		}
	}
}

func TestFeedOfSmallTexts(t *testing.T) { // P14.1
	for s := range smallTexts(smallPieces(), 4) {
		for part := range 7 {
			asShould(t, part, "", s)
			asShould(t, part, "http", s)
		}
	}
}

func TestFeedOfTwoTextsIsOfBoth(t *testing.T) { // P14.1
	for s := range smallTexts(smallPieces(), 3) {
		for part := range 7 {
			want, wantWord := Feed(part, "mailt", s)
			for at := range len(s) + 1 {
				middle, word := Feed(part, "mailt", s[:at])
				if got, gotWord := Feed(middle, word, s[at:]); got != want || gotWord != wantWord {
					t.Fatalf("P14.1: Feed(%d, mailt) of %q and then %q is %d, %q, of both %d, %q", part, s[:at], s[at:], got, gotWord, want, wantWord)
				}
			}
		}
	}
	texts := oddTexts()
	for i, s := range texts {
		behind := texts[(i*7+3)%len(texts)]
		for _, part := range oddParts() {
			middle, word := Feed(part, "", s)
			want, wantWord := Feed(part, "", s+behind)
			feeds(t, middle, word, behind, want, wantWord)
		}
	}
}

func TestFeedIsStepByStep(t *testing.T) { // P14.1
	for _, s := range oddTexts() {
		for _, first := range oddParts() {
			part, word := first, "http"
			for _, c := range []byte(s) {
				part, word = Step(part, word, c)
				if word != "" && part != 1 {
					t.Fatalf("P14.1: of %.60q a word %q is in part %d", s, word, part)
				}
			}
			feeds(t, first, "http", s, part, word)
		}
	}
}

func TestRefusedIsWhatFilterRefuses(t *testing.T) { // P14.1
	holds := func(s string) {
		scheme, ok := schemes.Scheme(s)
		bad := ok && !schemes.Allowed(scheme)
		if part, _ := Feed(0, "", s); (part == 5) != bad {
			t.Errorf("P14.1: Feed(0) of %.60q is %d; its scheme is %.60q, %t", s, part, scheme, ok)
		}
	}
	for _, s := range oddTexts() {
		holds(s)
	}
	for s := range smallTexts(smallPieces(), 4) {
		holds(s)
	}
}

func TestPartsAreAsALibraryHasThem(t *testing.T) { // P14.1
	seen := 0
	for s := range smallTexts([]string{"http", "s", "/", "?", "#", ":", "x", "MAILTO", "80"}, 5) {
		u, err := url.Parse(s)
		if err != nil || s == "" {
			continue
		}
		seen++
		want := 1
		switch {
		case u.Scheme != "" && u.Scheme != "http" && u.Scheme != "https" && u.Scheme != "mailto":
			want = 5
		case strings.ContainsAny(s, "?#"):
			want = 3
		case u.Scheme != "" || strings.Contains(s, "/"):
			want = 2
		}
		if got, _ := Feed(0, "", s); got != want {
			t.Errorf("P14.1: Feed(0) of %q is %d, not %d", s, got, want)
		}
	}
	if seen < 1000 {
		t.Errorf("just %d texts are URLs", seen)
	}
}

func TestHole(t *testing.T) { // P14.2
	for part, want := range [][2]int{{4, 1}, {1, 0}, {2, 2}, {3, 3}, {4, 0}, {5, 0}} {
		if got, kind := Hole(part); got != want[0] || kind != want[1] {
			t.Errorf("P14.2: Hole(%d) is %d, %d, not %d, %d", part, got, kind, want[0], want[1])
		}
	}
	for _, part := range noParts() {
		if got, kind := Hole(part); got != part || kind != 0 {
			t.Errorf("P14.2: Hole(%d) is %d, %d, not %d, 0", part, got, kind, part)
		}
	}
}

func TestActionsBehindURLs(t *testing.T) { // P14.1, P14.2
	for s, want := range map[string]int{"": 1, "/a/": 2, "http://": 2, "http:": 2, "?q=": 3, "#": 3, "/a?b=c&d=": 3, "a": 0, "http": 0, "javascript:": 0, ":": 0} {
		part, _ := Feed(0, "", s)
		if _, kind := Hole(part); kind != want {
			t.Errorf("P14.2: behind %q an action is of kind %d, not %d", s, kind, want)
		}
	}
}

func TestExample1(t *testing.T) {
	if got, word := Feed(0, "", "/a?b"); got != 3 || word != "" {
		t.Errorf("example 1: Feed(0) of /a?b is %d, %q", got, word)
	}
}
