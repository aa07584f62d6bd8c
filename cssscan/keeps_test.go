package cssscan

import (
	"fmt"
	"strings"
	"sync"
	"testing"
)

// wordsOf are the words that the calls answer of part, word and s.
func wordsOf(part int, word string, s string) []string {
	_, fedOne := Feed(part, word, s)
	_, fedNone := Feed(part, word, "")
	_, put := Step(part, word, 'x')
	_, ends := Step(part, word, ' ')
	_, action, _ := Hole(part)
	return []string{fedOne, fedNone, put, ends, action}
}

func TestAnswersAreNewMemory(t *testing.T) { // P16.3, P2
	for _, w := range oddWords() {
		for _, s := range []string{"", "a", "U", "?", "url", "x y", "é", long16, long16 + "A"} {
			for part := range 11 {
				_, word := fresh(w)
				_, text := fresh(s)
				all := append(wordsOf(part, word, text), wordsOf(part, word, text)...)
				for i, a := range all {
					if shares(a, word) || shares(a, text) {
						t.Errorf("P16.3: an answer of %d, %.40q, %.40q shares its memory: %.40q", part, w, s, a)
					}
					for _, b := range all[:i] {
						if shares(a, b) {
							t.Errorf("P16.3: two answers of %d, %.40q, %.40q share memory: %.40q", part, w, s, a)
						}
					}
				}
			}
		}
	}
}

func TestWordsOfOneOctetAreNewMemory(t *testing.T) { // P16.3, P2
	for i := range 256 {
		octet := string([]byte{byte(i)})
		_, a := Step(0, "", byte(i))
		_, b := Step(0, "", byte(i))
		_, c := Step(5, "", byte(i))
		_, d := Feed(0, "", octet)
		_, e := Feed(0, octet, "")
		_, f := Feed(9, octet, "")
		_, g := Step(0, "?", byte(i))
		_, h := Feed(0, "?", octet)
		_, action, _ := Hole(0)
		_, again, _ := Hole(0)
		_, kept := Feed(0, unknown, "")
		all := []string{a, b, c, d, e, f, g, h, action, again, kept, unknown, octet}
		for j, x := range all {
			for _, y := range all[:j] {
				if shares(x, y) {
					t.Errorf("P16.3: words of %q share memory", octet)
				}
			}
		}
	}
}

func TestArgumentsAreNotChangedAndNotKept(t *testing.T) { // P16.3, P2
	for _, w := range oddWords() {
		for _, s := range []string{"", "a", "U", "url(", "l(", "é/", " \"", long16, long16 + "A"} {
			for part := range 11 {
				wordOctets, word := fresh(w)
				textOctets, text := fresh(s)
				before := wordsOf(part, word, text)
				if string(wordOctets) != w || string(textOctets) != s {
					t.Errorf("P16.3: %.40q or %.40q was changed", w, s)
				}
				for i := range wordOctets {
					wordOctets[i] = ';'
				}
				for i := range textOctets {
					textOctets[i] = '('
				}
				for i, want := range wordsOf(part, w, s) {
					if before[i] != want {
						t.Errorf("P16.3: an answer of %d, %.40q, %.40q changes with what was handed in", part, w, s)
					}
				}
			}
		}
	}
}

func TestEveryCallAnswers(t *testing.T) { // P1
	for _, part := range oddParts() {
		if got, word, ok := Hole(part); got != part || ok != (part == 0) || len(word) > 1 {
			t.Errorf("P1: Hole(%d) is %d, %q, %t", part, got, word, ok)
		}
		for _, word := range oddWords() {
			for _, c := range []byte(every()) {
				got, gotWord := Step(part, word, c)
				if got < 0 || got > 9 || got != 0 && gotWord != "" || len(gotWord) > max(16, len(word)) {
					t.Errorf("P1: Step(%d, %.40q, %q) is %d, %.40q", part, word, c, got, gotWord)
				}
			}
		}
	}
}

func TestGreatTextsAnswer(t *testing.T) { // P1, Limits
	for _, piece := range []string{"a", "A", "url ", "url(", "url()", "/", "*", "\"", "'\\", "\\", "(", ")", ":", "\n", "é", "\x00", "\xff", "/*", "/**/", "\"a\" ", "x/", "?"} {
		short, great := strings.Repeat(piece, 1<<6), strings.Repeat(piece, 1<<18)
		for part := range 11 {
			for _, word := range []string{"", "url", "?", great} {
				want, wantWord := fed(part, word, short) // it goes round at 64 pieces, whatever they are
				if got, gotWord := Feed(part, word, great); got != want || gotWord != wantWord {
					t.Errorf("P1: from %d, %.20q, %q, told often, leads to %d, %.20q, not %d, %.20q", part, word, piece, got, gotWord, want, wantWord)
				}
			}
			want, wantWord := fed(part, great, "x")
			if got, gotWord := Step(part, great, 'x'); got != want || gotWord != wantWord {
				t.Errorf("P1: Step(%d) with a great word of %q is %d, %.20q", part, piece, got, gotWord)
			}
		}
	}
}

func TestAnswersHangOnArgumentsAlone(t *testing.T) { // P3
	texts := oddTexts()
	tell := func() string {
		var b strings.Builder
		for i, s := range texts {
			for _, part := range oddParts() {
				next, word := Feed(part, texts[i/2], s)
				behind, action, ok := Hole(next)
				fmt.Fprintln(&b, next, word, wordsOf(part, word, s), behind, action, ok)
			}
		}
		return b.String()
	}
	want := tell()
	got := make([]string, 8)
	var wait sync.WaitGroup
	for i := range got {
		wait.Go(func() { got[i] = tell() })
	}
	wait.Wait()
	for _, g := range got {
		if g != want {
			t.Error("P3: the calls answer otherwise from run to run")
		}
	}
}
