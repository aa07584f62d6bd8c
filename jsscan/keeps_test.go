package jsscan

import (
	"fmt"
	"strings"
	"sync"
	"testing"

	"muslin/literal"
)

// wordsOf are the words that the calls answer of part, word and s.
func wordsOf(part int, word string, s string) []string {
	_, fedOne := Feed(part, word, s)
	_, fedNone := Feed(part, word, "")
	_, put := Step(part, word, 'x')
	_, ends := Step(part, word, ' ')
	return []string{fedOne, fedNone, put, ends}
}

func TestAnswersAreNewMemory(t *testing.T) { // P15.5, P2
	for _, w := range append(oddWords(), "a", "") {
		for _, s := range []string{"", "a", "in", "x y", "é", long16, long16 + "A"} {
			for part := range 17 {
				_, word := fresh(w)
				_, text := fresh(s)
				all := append(wordsOf(part, word, text), wordsOf(part, word, text)...)
				for i, a := range all {
					if shares(a, word) || shares(a, text) {
						t.Errorf("P15.5: an answer of %d, %.40q, %.40q shares its memory: %.40q", part, w, s, a)
					}
					for _, b := range all[:i] {
						if shares(a, b) {
							t.Errorf("P15.5: two answers of %d, %.40q, %.40q share memory: %.40q", part, w, s, a)
						}
					}
				}
			}
		}
	}
}

func TestWordsOfOneOctetAreNewMemory(t *testing.T) { // P15.5, P2
	for i := range 256 {
		octet := string([]byte{byte(i)})
		_, a := Step(0, "", byte(i))
		_, b := Step(1, "", byte(i))
		_, c := Step(14, "", byte(i))
		_, d := Feed(0, "", octet)
		_, e := Feed(1, octet, "")
		all := []string{a, b, c, d, e, octet}
		for j, x := range all {
			for _, y := range all[:j] {
				if shares(x, y) {
					t.Errorf("P15.5: words of %q share memory", octet)
				}
			}
		}
	}
}

func TestArgumentsAreNotChangedAndNotKept(t *testing.T) { // P15.5, P2
	for _, w := range oddWords() {
		for _, s := range []string{"", "a", "in", "x y", "é/", " -1 ", long16, long16 + "A"} {
			for part := range 17 {
				wordOctets, word := fresh(w)
				textOctets, text := fresh(s)
				before := wordsOf(part, word, text)
				Hole(part, word)
				Literal(text)
				Literal(word)
				if string(wordOctets) != w || string(textOctets) != s {
					t.Errorf("P15.5: %.40q or %.40q was changed", w, s)
				}
				for i := range wordOctets {
					wordOctets[i] = ';'
				}
				for i := range textOctets {
					textOctets[i] = '/'
				}
				for i, want := range wordsOf(part, w, s) {
					if before[i] != want {
						t.Errorf("P15.5: an answer of %d, %.40q, %.40q changes with what was handed in", part, w, s)
					}
				}
			}
		}
	}
}

func TestEveryCallAnswers(t *testing.T) { // P1
	for _, part := range oddParts() {
		for _, word := range oddWords() {
			if got, kind := Hole(part, word); kind < 0 || kind > 2 || kind == 0 && got != part {
				t.Errorf("P1: Hole(%d, %.40q) is %d, %d", part, word, got, kind)
			}
			for _, c := range []byte(every()) {
				got, gotWord := Step(part, word, c)
				if got < 0 || got > 15 || got != 1 && gotWord != "" || len(gotWord) > max(16, len(word)) {
					t.Errorf("P1: Step(%d, %.40q, %q) is %d, %.40q", part, word, c, got, gotWord)
				}
			}
		}
	}
}

func TestGreatTextsAnswer(t *testing.T) { // P1, Limits
	for _, piece := range []string{"a", "in ", "/", "*", "\"", "'\\", "\\", "[", "]", "=", "\n", "é", "\x00", "\xff", "/*", "/[", "\"a\" ", "x/"} {
		short, great := strings.Repeat(piece, 1<<6), strings.Repeat(piece, 1<<18)
		for part := range 17 {
			for _, word := range []string{"", "in", great} {
				want, wantWord := fed(part, word, short) // it goes round at 64 pieces, whatever they are
				if got, gotWord := Feed(part, word, great); got != want || gotWord != wantWord {
					t.Errorf("P1: from %d, %.20q, %q, told often, leads to %d, %.20q, not %d, %.20q", part, word, piece, got, gotWord, want, wantWord)
				}
			}
			want, wantWord := fed(part, great, "x")
			if got, gotWord := Step(part, great, 'x'); got != want || gotWord != wantWord {
				t.Errorf("P1: Step(%d) with a great word of %q is %d, %.20q", part, piece, got, gotWord)
			}
		}
		if Literal(great) || Literal(" "+great+" x") {
			t.Errorf("P1: %q, told often, is a literal", piece)
		}
	}
}

func TestGreatLiterals(t *testing.T) { // P1, P15.2, Limits
	const count = 1 << 18
	blank := strings.Repeat(" \n", count)
	for s, want := range map[string]bool{
		blank:                  false,
		blank + "-1" + blank:   true,
		blank + "null" + blank: true,
		literal.Quote(strings.Repeat("/", count)):                             true,
		"[" + strings.Repeat("1,", count) + "1]":                              true,
		"[" + strings.Repeat("1,", count) + "]":                               false,
		strings.Repeat("[", count) + strings.Repeat("]", count):               false,
		strings.Repeat("[", count):                                            false,
		strings.Repeat("{\"a\":", count):                                      false,
		strings.Repeat("9", count):                                            false,
		"-" + strings.Repeat("9", count):                                      false,
		"\"" + strings.Repeat("a", count):                                     false,
		"{\"a\":[" + strings.Repeat(" -1,", count) + "{}],\"b\":\"\\u0022\"}": true,
	} {
		if got := Literal(s); got != want {
			t.Errorf("P15.2: Literal of a great text %.20q is %t", s, got)
		}
	}
}

func TestAnswersHangOnArgumentsAlone(t *testing.T) { // P3
	texts := oddTexts()
	tell := func() string {
		var b strings.Builder
		for i, s := range texts {
			for _, part := range oddParts() {
				next, word := Feed(part, texts[i/2], s)
				behind, kind := Hole(next, word)
				fmt.Fprintln(&b, next, word, wordsOf(part, word, s), behind, kind)
			}
			fmt.Fprintln(&b, Literal(s))
		}
		return b.String()
	}
	want := tell()
	got := make([]string, 8)
	var wait sync.WaitGroup
	for i := range got {
		wait.Go(func() { got[i] = tell() })
	}
	wait.Wait()
	for _, g := range got {
		if g != want {
			t.Error("P3: the calls answer otherwise from run to run")
		}
	}
}
