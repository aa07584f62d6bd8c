package lex

import (
	"fmt"
	"slices"
	"strings"
	"sync"
	"testing"

	"muslin/api"
)

// manyTexts are templates and actions, some of which may not be.
func manyTexts() []string {
	out := []string{
		"", "a", " ", "{", "{{", "}}", "{{}}", "{{a}}", "a{{.b}}c", "a {{- .b -}} c", "a{{/* b */}}c", "a {{- /* b */ -}} c", "a{{/**/}}", "{{/**/}}a", "{{\"}}\"}}", "{{ \"a", "{{/*", "x{{a}}y{{b}}z", "\xff{{\xff}}\xff", every(), "{{" + strings.ReplaceAll(every(), `"`, "") + "}}",
		".", "$", "1", "-1", "|", ":=", ".a", "$a.b", `""`, `"a"`, `"\n"`, `"a\tb\\c\"d"`, "a b", "a|b", "$x:=.y|len", ". $ 1 | \"\" := a", "?", "a ?", `"\x"`, `"`, "01", "9223372036854775808", ".a. b", strings.Repeat("a", 33), strings.Repeat("a ", 40),
	}
	for _, s := range slices.Clone(out) {
		out = append(out, "{{"+s+"}}", s+s, "a "+s+" b")
	}
	return out
}

// textsOf are all texts that the calls answer of s.
func textsOf(s string) []string {
	var out []string
	items, _, _ := Items(s)
	for _, item := range items {
		out = append(out, item.Text)
	}
	words, _, _ := Words(s, 5)
	for _, word := range words {
		out = append(out, word.Text)
	}
	return append(out, Quote(s))
}

func TestAnswersAreNewMemory(t *testing.T) { // P18.4, P2
	program := []string{opening, closing, remarkBegins, remarkEnds, pipe, declares, shortNames, shortTexts}
	for _, s := range manyTexts() {
		_, given := fresh(s)
		all := append(textsOf(given), textsOf(given)...)
		for i, a := range all {
			for _, b := range append(program, given) {
				if shares(a, b) {
					t.Errorf("P18.4: an answer of %q shares memory: %q", s, a)
				}
			}
			for _, b := range all[:i] {
				if shares(a, b) {
					t.Errorf("P18.4: two answers of %q share memory: %q, %q", s, a, b)
				}
			}
		}
	}
}

func TestListsAreNewMemory(t *testing.T) { // P18.4, P2
	items, _, _ := Items("a{{b}}c")
	words, _, _ := Words("a b c", 0)
	items = append(items, Item{})
	words = append(words, Word{})
	for i := range items {
		items[i] = Item{Kind: 9, Text: "changed", At: 9}
	}
	for i := range words {
		words[i] = Word{Kind: 9, Text: "changed", At: 9}
	}
	cuts(t, "a{{b}}c", text("a", 0), inside("b", 1), text("c", 6))
	has(t, "a b c", Word{1, "a", 0}, Word{1, "b", 2}, Word{1, "c", 4})
}

func TestArgumentsAreNotChangedAndNotKept(t *testing.T) { // P18.4, P2
	for _, s := range manyTexts() {
		b, given := fresh(s)
		got := textsOf(given)
		if given != s {
			t.Errorf("P18.4: %q was changed", s)
		}
		for i := range b {
			b[i] = '#'
		}
		if !slices.Equal(got, textsOf(s)) {
			t.Errorf("P18.4: an answer of %q changes with what was handed in", s)
		}
	}
}

// answers holds what each answer has: beside an error nothing but a place, beside none a place that the chapter names.
func answers(t *testing.T, s string) {
	t.Helper()
	items, at, err := Items(s)
	switch err {
	case api.OK:
		if at != len(s) {
			t.Errorf("P18.1: beside no error of %.80q stands %d", s, at)
		}
	case api.ErrShort:
		if items != nil || !strings.HasPrefix(s[at:], opening) {
			t.Errorf("P4: beside an error of %.80q stand %d pieces and %d", s, len(items), at)
		}
	case api.ErrLong:
		if items != nil || at != 0 || len(s) <= api.MaxText {
			t.Errorf("P4: beside ErrLong of %.80q stand %d pieces and %d", s, len(items), at)
		}
	default:
		t.Errorf("P18.1: Items(%.80q) is refused with %d", s, err)
	}
	words, at, err := Words(s, 100)
	switch err {
	case api.OK:
		if at != 100 {
			t.Errorf("P18.2: beside no error of %.80q stands %d", s, at)
		}
	case api.ErrSyntax, api.ErrLong, api.ErrRange:
		if words != nil || at < 100 || at >= 100+len(s) {
			t.Errorf("P4: beside an error of %.80q stand %d words and %d", s, len(words), at)
		}
	default:
		t.Errorf("P18.2: Words(%.80q) is refused with %d", s, err)
	}
}

func TestEveryCallAnswers(t *testing.T) { // P1, P4
	for _, s := range manyTexts() {
		answers(t, s)
	}
	for one := range 256 {
		for two := range 256 {
			s := string([]byte{byte(one), byte(two)})
			answers(t, s)
			answers(t, "{{"+s+"}}")
			readsAsShould(t, s, 2)
			cutsAsShould(t, "{{"+s+"}} ")
			cutsAsShould(t, " {{"+s+"/**/")
		}
	}
}

func TestGreatTextsAnswer(t *testing.T) { // P1, Limits
	for _, piece := range []string{"a", " ", ".", ".a", "$", "$.a", "1", "-1", "-", "|", ":=", ":", `"`, `""`, `"a`, `\`, `"\`, `"\"`, "{{", "}}", "{{a}}", "{{/*", "*/", "{{/**/}}", "{{- /**/ -}} ", " {{- a -}} ", "\xff", "\x00"} {
		for _, count := range []int{64, 1 << 10, 1<<14/len(piece) - 1, 1 << 14, 1 << 17} {
			s := strings.Repeat(piece, count)
			answers(t, s)
			answers(t, `"`+s)
			answers(t, "{{"+s)
			if len(Quote(s)) < len(s)+2 {
				t.Errorf("P1: Quote of many %q is too short", piece)
			}
		}
	}
}

func TestAnswersHangOnArgumentsAlone(t *testing.T) { // P3
	texts := manyTexts()
	tell := func() string {
		var b strings.Builder
		for _, s := range texts {
			items, at, err := Items(s)
			fmt.Fprintln(&b, items, at, err)
			words, at, err := Words(s, len(s))
			fmt.Fprintln(&b, words, at, err, Quote(s))
		}
		return b.String()
	}
	want := tell()
	got := make([]string, 8)
	var wait sync.WaitGroup
	for i := range got {
		wait.Go(func() { got[i] = tell() })
	}
	wait.Wait()
	for _, g := range got {
		if g != want {
			t.Error("P3: the calls answer otherwise from run to run")
		}
	}
}
