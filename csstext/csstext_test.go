package csstext

import (
	"strings"
	"testing"
	"unicode/utf8"

	"muslin/api"
)

func TestPlain(t *testing.T) { // P10.1
	for _, s := range plainTexts() {
		if !Plain(s) {
			t.Errorf("P10.1: %.60q, of %d octets, is not plain", s, len(s))
		}
	}
}

func TestWhatIsNotPlain(t *testing.T) { // P10.1
	for _, s := range otherTexts() {
		if Plain(s) {
			t.Errorf("P10.1: %.60q, of %d octets, is plain", s, len(s))
		}
	}
}

func TestEveryOctet(t *testing.T) { // P10.1
	for i := range 256 {
		c := string([]byte{byte(i)})
		want := strings.Contains("abcdefghijklmnopqrstuvwxyzABCDEFGHIJKLMNOPQRSTUVWXYZ0123456789 .,%#+-", c)
		for _, s := range []string{c, c + "12px", "12px" + c, "12" + c + "px", c + c, " " + c, c + " "} {
			if Plain(s) != want {
				t.Errorf("P10.1: Plain(%q) is %t", s, !want)
			}
			if got, want := Filter(s), filtered(s); got != want {
				t.Errorf("P10.1: Filter(%q) is %q, not %q", s, got, want)
			}
		}
		for _, s := range []string{"u" + c + "l", c + "rl", "ur" + c, "expressio" + c, c + "xpression", "exp" + c + "ession", "u" + c + "rl", "expres" + c + "sion"} {
			if Plain(s) != isPlain(s) {
				t.Errorf("P10.1: Plain(%q) is %t", s, Plain(s))
			}
		}
	}
}

func TestEveryTwoOctets(t *testing.T) { // P10.1
	for i := range 1 << 16 {
		s := string([]byte{byte(i >> 8), byte(i)})
		if Plain(s) != isPlain(s) || Plain("a"+s) != isPlain("a"+s) || Plain("u"+s) != isPlain("u"+s) || Plain(s+"L") != isPlain(s+"L") {
			t.Fatalf("P10.1: %q, or with a, u or L at it, is told plain otherwise", s)
		}
	}
}

func TestEveryCharacter(t *testing.T) { // P10.1
	for n := rune(utf8.RuneSelf); n <= utf8.MaxRune; n++ {
		s := string(n) // U+FFFD of a number that is no character's
		if Plain(s) || Plain("12"+s+"px") {
			t.Fatalf("P10.1: %q is plain", s)
		}
	}
}

func TestWordsInAllLetters(t *testing.T) { // P10.1
	for _, word := range []string{"expression", "url"} {
		for great := range 1 << len(word) {
			letters := []byte(word)
			for i := range letters {
				if great>>i&1 == 1 {
					letters[i] -= 'a' - 'A'
				}
			}
			s := string(letters)
			for _, wrong := range []string{s, "a" + s, s + "a", "1 " + s + " 2"} {
				if Plain(wrong) || Filter(wrong) != mark {
					t.Errorf("P10.1: %q is plain", wrong)
				}
			}
			for _, right := range []string{s[1:], s[:len(s)-1], s[:2] + " " + s[2:], s[:1] + s[2:]} {
				if !Plain(right) || Filter(right) != right {
					t.Errorf("P10.1: %q is not plain", right)
				}
			}
		}
	}
}

func TestLongTexts(t *testing.T) { // P10.1, Limits
	for size := api.MaxValue - 12; size <= api.MaxValue+12; size++ {
		for _, piece := range []string{"a", "Z", "0", " ", "%", "ur", "expressio"} {
			s := strings.Repeat(piece, size)[:size]
			if want := size <= api.MaxValue; Plain(s) != want {
				t.Errorf("P10.1: Plain of %d octets, %q among them, is %t", size, piece, !want)
			}
			if got := Filter(s); got != filtered(s) {
				t.Errorf("P10.1: Filter of %d octets, %q among them, is %.60q", size, piece, got)
			}
			for _, word := range []string{"url", "expression", ";", "é"} {
				at := size / 2
				for _, wrong := range []string{word + s[len(word):], s[:size-len(word)] + word, s[:at] + word + s[at+len(word):]} {
					if Plain(wrong) || Filter(wrong) != mark {
						t.Errorf("P10.1: a text of %d octets with %q is plain", size, word)
					}
				}
			}
		}
	}
}

func TestMarker(t *testing.T) { // P10.1
	if got := Marker(); got != "ZgotmplZ" {
		t.Errorf("P10.1: Marker is %q", got)
	}
	if got := Filter(Marker()); got != mark || !Plain(Marker()) {
		t.Errorf("P10.1: Filter of Marker is %q", got)
	}
}

func TestFilter(t *testing.T) { // P10.1
	for s, want := range map[string]string{
		"": "", "12px": "12px", "a;b": mark, "ab": "ab", " 12px ": " 12px ", "12PX": "12PX", "#FFAA00": "#FFAA00", "50%": "50%", "-1.5em": "-1.5em", "+1,2": "+1,2", "Times New Roman": "Times New Roman",
		"a:b": mark, "a(b)": mark, "12px;": mark, "12px\n": mark, "12\tpx": mark, "a\x00": mark, "\xff": mark, "é": mark, "'a'": mark, "\\": mark, "a/b": mark, "</style>": mark, "a_b": mark,
		"url": mark, "URL": mark, "curl": mark, "uurl": mark, "expression": mark, "eXpression": mark, "expexpression": mark, "12px expression": mark, "ur l": "ur l", "expressio n": "expressio n", "ur": "ur", "xpression": "xpression",
		mark: mark, mark + ";": mark, mark + "1": mark + "1",
	} {
		if got := Filter(s); got != want {
			t.Errorf("P10.1: Filter(%q) is %q, not %q", s, got, want)
		}
	}
}

func TestOddTexts(t *testing.T) { // P10.1
	texts := oddTexts()
	for i, s := range texts {
		for _, whole := range []string{s, s + s, s + texts[len(texts)-1-i], s + ";", "u" + s, s + "l", s + " " + s} {
			if Plain(whole) != isPlain(whole) {
				t.Fatalf("P10.1: Plain(%.60q) is %t", whole, Plain(whole))
			}
			if got, want := Filter(whole), filtered(whole); got != want {
				t.Fatalf("P10.1: Filter(%.60q) is %.60q, not %.60q", whole, got, want)
			}
		}
	}
}

func TestSmallTexts(t *testing.T) { // P10.1
	for s := range smallTexts(smallPieces(), 5) {
		if Plain(s) != isPlain(s) {
			t.Fatalf("P10.1: Plain(%q) is %t", s, Plain(s))
		}
		if got, want := Filter(s), filtered(s); got != want {
			t.Fatalf("P10.1: Filter(%q) is %q, not %q", s, got, want)
		}
	}
}
