package pipes

import (
	"fmt"
	"math"
	"slices"
	"strings"
	"sync"
	"testing"

	"muslin/api"
	"muslin/lex"
)

// manyTexts are actions, some of which are no pipelines.
func manyTexts() []string {
	return []string{
		".", ".a", ".a.b.c", "$", "$x", "$.a.b", "$x.a.b", "7", "-12", `""`, `"a"`, `"|\n"`, "true", "false", "nil", "len .a", "eq .a.b $x.c", "print 1 2 3", ".a|len", "print .a.b $x.y \"text\" true|default .a|not",
		"", "|", ":=", ".|", "$x := .", "foo", "len", "print foo", ".a .b", ".|.|.", strings.Repeat(".a", 17), strings.Repeat("print 1|", 20),
	}
}

// handed are the words of s, texts and all in memory of its own, and what changes them.
func handed(t *testing.T, s string) ([]lex.Word, func()) {
	l := words(t, s, 3)
	var octets [][]byte
	for i := range l {
		b, text := fresh(l[i].Text)
		octets, l[i].Text = append(octets, b), text
	}
	return l, func() {
		for _, b := range octets {
			for i := range b {
				b[i] = '#'
			}
		}
		for i := range l {
			l[i].Kind, l[i].At = 9, 9
		}
	}
}

func TestAnswersAreNewMemory(t *testing.T) { // P19.4, P2
	program := []string{dot, dollar, pipe, declares}
	for kind := isTrue; kind <= isNil; kind++ {
		program = append(program, constantOf(kind))
	}
	for _, s := range manyTexts() {
		l, _ := handed(t, s)
		one, _, _ := Parse(l, 0)
		other, _, _ := Parse(l, 0)
		texts, lists := textsOf(append(slices.Clone(one), other...))
		texts = append(texts, Print(one), Print(one))
		kept := program
		for _, w := range l {
			kept = append(kept, w.Text)
		}
		for i, a := range texts {
			for _, b := range append(kept, texts[:i]...) {
				if shares(a, b) {
					t.Errorf("P19.4: an answer of %q shares memory: %q, %q", s, a, b)
				}
			}
		}
		for i, a := range lists {
			if slices.Contains(lists[:i], a) {
				t.Errorf("P19.4: two lists of answers of %q are one", s)
			}
		}
		if len(one) > 0 && &one[0] == &other[0] {
			t.Errorf("P19.4: two answers of %q are one list", s)
		}
	}
	for _, l := range append(good(), bad()...) { // what is printed shares no memory with the names in it
		texts, _ := textsOf(l)
		printed := Print(l)
		for _, text := range append(texts, program...) {
			if shares(printed, text) {
				t.Errorf("P19.4: Print of %s shares memory", brief(l))
			}
		}
	}
}

func TestListsOfAnAnswerAreApart(t *testing.T) { // P19.4, P2
	l := read(t, "print .a .b|print $x.a $y.b")
	want := read(t, "print .a .b|print $x.a $y.b")
	for i := range l {
		l[i].Args = append(l[i].Args, api.Arg{Kind: 9})[:2]
		for j := range l[i].Args {
			l[i].Args[j].Path = append(l[i].Args[j].Path, "more")[:1]
		}
	}
	if !alike(l, want) {
		t.Errorf("P19.4: lists of an answer run into each other: %s", brief(l))
	}
	l[0].Args[0].Path[0] = "changed"
	if !alike(read(t, "print .a .b|print $x.a $y.b"), want) {
		t.Error("P19.4: an answer is kept")
	}
}

func TestArgumentsAreNotChangedAndNotKept(t *testing.T) { // P19.4, P2
	for _, s := range manyTexts() {
		l, change := handed(t, s)
		got, _, _ := Parse(l, 5)
		if !slices.Equal(l, words(t, s, 3)) {
			t.Errorf("P19.4: Parse changes the words of %q", s)
		}
		change()
		want, _, _ := Parse(words(t, s, 3), 5)
		if !alike(got, want) {
			t.Errorf("P19.4: an answer of %q changes with what was handed in", s)
		}
	}
	for _, l := range append(good(), bad()...) {
		before := filled(l)
		Print(l)
		Check(l)
		Same(l, l)
		if !alike(l, before) {
			t.Errorf("P19.4: %s was changed", brief(l))
		}
	}
}

func TestEveryCallAnswers(t *testing.T) { // P1, P4
	texts := []string{"", ".", "..", ".a", "$", "$x", "$.", "$x.a", "a", "len", "true", "1", "-", "|", ":=", "\xff", every(), strings.Repeat(".a", 17)}
	for kind := -2; kind <= 9; kind++ {
		for _, one := range texts {
			for other := -1; other <= 8; other++ {
				for _, two := range texts {
					refusesAsShould(t, []lex.Word{{Kind: kind, Text: one, At: math.MinInt}, {Kind: other, Text: two, At: math.MaxInt}}, -7)
				}
			}
			l := []api.Call{{Name: one, Args: []api.Arg{{Kind: kind, Name: one, Path: []string{one}, Int: kind, Text: one}}}}
			checksAsShould(t, l)
		}
	}
}

func TestGreatListsAnswer(t *testing.T) { // P1, Limits
	const many = 1 << 17
	for _, w := range []lex.Word{{Kind: 1, Text: "len"}, {Kind: 1, Text: "nil"}, {Kind: 2, Text: "."}, {Kind: 3, Text: "$x.a"}, {Kind: 4, Text: "7"}, {Kind: 5, Text: "a"}, {Kind: 6, Text: "|"}, {Kind: 6, Text: ":="}, {Kind: 0}} {
		l := slices.Repeat([]lex.Word{w}, many)
		refusesAsShould(t, l, 5)
		refusesAsShould(t, append([]lex.Word{{Kind: 1, Text: "print"}}, l...), 5)
		refusesAsShould(t, append([]lex.Word{{Kind: 2, Text: "."}, {Kind: 6, Text: "|"}, {Kind: 1, Text: "print"}}, l...), 5)
	}
	for _, kind := range []int{1, 2, 3, 4, 5, 6} {
		for _, piece := range []string{".a", ".", "$", "a", "9", "\\"} {
			refusesAsShould(t, []lex.Word{{Kind: kind, Text: strings.Repeat(piece, many)}}, 5)
			refusesAsShould(t, []lex.Word{{Kind: kind, Text: "$" + strings.Repeat(piece, many)}}, 5)
		}
	}
	great := []api.Call{call("print", slices.Repeat([]api.Arg{dotted("a")}, many)...)}
	if Check(great) != api.ErrState || len(Print(great)) != len("print")+3*many || !Same(great, filled(great)) {
		t.Error("P1: a call of many arguments is not answered as it should")
	}
	calls := slices.Repeat([]api.Call{call("len")}, many)
	if Check(calls) != api.ErrState || len(Print(calls)) != 6*many-3 || !Same(calls, slices.Clone(calls)) {
		t.Error("P1: many calls are not answered as they should")
	}
}

func TestAnswersHangOnArgumentsAlone(t *testing.T) { // P3
	var lists [][]lex.Word
	for _, s := range manyTexts() {
		lists = append(lists, words(t, s, 3))
	}
	tell := func() string {
		var b strings.Builder
		for _, l := range lists {
			calls, at, err := Parse(l, 4)
			fmt.Fprintln(&b, calls, at, err, Print(calls), Check(calls), Same(calls, calls))
		}
		for _, name := range functions() {
			least, most, ok := Arity(name)
			fmt.Fprintln(&b, least, most, ok)
		}
		return b.String()
	}
	want := tell()
	got := make([]string, 8)
	var wait sync.WaitGroup
	for i := range got {
		wait.Go(func() { got[i] = tell() })
	}
	wait.Wait()
	for _, g := range got {
		if g != want {
			t.Error("P3: the calls answer otherwise from run to run")
		}
	}
}
