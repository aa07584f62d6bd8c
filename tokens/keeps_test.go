package tokens

import (
	"fmt"
	"math"
	"slices"
	"strings"
	"sync"
	"testing"

	"muslin/api"
)

// comesBack tells whether Tokens of Write of l are l, if l may be written.
func comesBack(t *testing.T, l ...api.Token) bool {
	t.Helper()
	s, err := Write(l...)
	if err != api.OK {
		return false
	}
	if got, err := Tokens(s); err != api.OK || !areSame(got, l) {
		t.Errorf("P12.3: %s comes back of %.200q as %s, %d", shown(l), s, shown(got), err)
	}
	return true
}

func TestTokensComeBack(t *testing.T) { // P12.3
	all := goodTokens()
	comesBack(t)
	for _, a := range all {
		if !comesBack(t, a) {
			t.Errorf("P12.3: %+v is not written", a)
		}
		for _, b := range all {
			if done := comesBack(t, a, b); done == (a.Kind == 3 && b.Kind == 3) {
				t.Errorf("P12.3: %+v and %+v are written: %v", a, b, done)
			}
			for _, c := range all {
				comesBack(t, a, b, c)
			}
		}
	}
	var long []api.Token
	for range 100 {
		for _, a := range all {
			if len(long) == 0 || a.Kind != 3 || long[len(long)-1].Kind != 3 {
				long = append(long, a)
			}
		}
	}
	if !comesBack(t, long...) {
		t.Error("P12.3: many tokens are not written")
	}
}

func TestTokensOfManyFormsComeBack(t *testing.T) { // P12.3
	written := 0
	parts := []string{"", "a", "-", ">", "<", "&lt;", "\"", "'", "é", "\x00", "\xff", "=", "/", " ", "!--", "1", "A", "p"}
	for s := range smallTexts(parts, 3) {
		for _, token := range []api.Token{start(s), closed(s, "a", "b"), end(s), said(s), remark(s), start("p", s, "a"), start("p", "a", s), closed("p", "b", s, s, "")} {
			done := comesBack(t, token) && comesBack(t, token, start("p", "x", "y"), token) && comesBack(t, end("p"), token, remark("z"))
			if done != (Check(token) == api.OK) {
				t.Errorf("P12.3: %+v is written: %v", token, done)
			}
			if done {
				written++
			}
		}
	}
	if written < 5000 {
		t.Errorf("P12.3: only %d tokens were written", written)
	}
}

func TestWhatIsReadAndMayBeWrittenComesBack(t *testing.T) { // P12.3
	written := 0
	for s := range smallTexts(pieces(), 4) {
		l, err := Tokens("<p" + s + ">")
		if err == api.OK && comesBack(t, l...) {
			written++
		}
	}
	if written < 1000 {
		t.Errorf("P12.3: only %d of the texts were written", written)
	}
}

func TestAnswersOfTokensAreNewMemory(t *testing.T) { // P12.4, P2
	for _, s := range oddTexts() {
		octets, given := fresh(s)
		one, _ := Tokens(given)
		two, _ := Tokens(given)
		if string(octets) != s {
			t.Errorf("P12.4: %.40q was changed", s)
		}
		texts := append(textsOf(one[:min(len(one), 40)]), textsOf(two[:min(len(two), 40)])...)
		for i, a := range texts {
			if shares(a, given) {
				t.Errorf("P12.4: an answer of %.40q shares its memory", s)
			}
			for _, b := range texts[:min(i, 400)] {
				if shares(a, b) {
					t.Errorf("P12.4: two texts that are told of %.40q share memory", s)
				}
			}
		}
		for i := range octets {
			octets[i] = '#'
		}
		if !areSame(one, two) || !areSame(one, read(s)) {
			t.Errorf("P12.4: an answer of %.40q changes with its argument", s)
		}
	}
}

func TestListsOfTokensAreNewMemory(t *testing.T) { // P12.4, P2
	for _, s := range oddTexts() {
		one, _ := Tokens(s)
		two, _ := Tokens(s)
		want := copied(one)
		for i := range two {
			attrs := two[i].Attrs[:cap(two[i].Attrs)]
			for j := range attrs {
				attrs[j] = api.Attr{Name: "written", Value: "written"}
			}
			if !areSame(two[i+1:], want[i+1:]) {
				t.Fatalf("P12.4: two lists of an answer of %.40q share memory", s)
			}
		}
		all := two[:cap(two)]
		for i := range all {
			all[i] = api.Token{Kind: 9, Name: "written"}
		}
		if again, _ := Tokens(s); !areSame(one, want) || !areSame(again, want) {
			t.Errorf("P12.4: what was written into an answer of %.40q is in others", s)
		}
	}
}

func TestAnswersOfWriteAndTextAreNewMemory(t *testing.T) { // P12.4, P2
	for _, one := range append(goodTokens(), said("b"), remark("c"), start("a", "b", "c")) {
		var octets [][]byte
		own := func(s string) string {
			b, text := fresh(s)
			octets = append(octets, b)
			return text
		}
		given := api.Token{Kind: one.Kind, Name: own(one.Name), Text: own(one.Text), Closed: one.Closed}
		for _, a := range one.Attrs {
			given.Attrs = append(given.Attrs, api.Attr{Name: own(a.Name), Value: own(a.Value)})
		}
		wrote, _ := Write(given)
		again, _ := Write(given)
		answers := []string{wrote, again, Text(given), Text(given)}
		want := []string{strings.Clone(wrote), strings.Clone(again), strings.Clone(Text(given)), strings.Clone(Text(given))}
		for i, a := range answers {
			for _, b := range append(slices.Clone(answers[:i]), textsOf([]api.Token{given})...) {
				if shares(a, b) {
					t.Errorf("P12.4: an answer of %+v shares memory: %.40q", one, a)
				}
			}
		}
		if !isSame(given, one) {
			t.Errorf("P12.4: %+v was changed", one)
		}
		for _, b := range octets {
			for i := range b {
				b[i] = '#'
			}
		}
		if !slices.Equal(answers, want) {
			t.Errorf("P12.4: an answer of %+v changes with its argument", one)
		}
	}
}

func TestArgumentsAreNotChanged(t *testing.T) { // P12.4, P2
	spare := append(goodTokens(), start("P", "A", "\xff"), said(""), start("script"), api.Token{Kind: 9})
	for i := range spare {
		spare[i].Attrs = append(spare[i].Attrs, api.Attr{Name: "spare", Value: "spare"})
		spare[i].Attrs = spare[i].Attrs[:len(spare[i].Attrs)-1]
	}
	want := copied(spare)
	for n := range len(spare) + 1 {
		Write(spare[:n]...)
		Text(spare[:n]...)
	}
	for _, a := range spare {
		Check(a)
		for _, b := range spare {
			Same(a, b)
			Write(a, b)
		}
	}
	for i, a := range spare {
		if !isSame(a, want[i]) || a.Attrs[:len(a.Attrs)+1][len(a.Attrs)].Name != "spare" {
			t.Errorf("P12.4: %+v was changed to %+v", want[i], a)
		}
	}
}

func TestAnyTokensAnswer(t *testing.T) { // P1
	odd := []api.Token{
		{}, {Kind: -1}, {Kind: 5}, {Kind: math.MaxInt}, {Kind: math.MinInt}, {Kind: 1}, {Kind: 2}, {Kind: 3}, {Kind: 4}, {Kind: 1, Attrs: make([]api.Attr, 3)}, {Kind: 2, Attrs: []api.Attr{}, Closed: true},
		start("\x00", "\xff", "\x80"), start(strings.Repeat("a", 1<<20)), said(strings.Repeat("<", 1<<20)), remark(strings.Repeat("-", 1<<20)), start("p", strings.Repeat("a", 1<<20), strings.Repeat("&", 1<<20)), {Kind: 1, Name: "p", Attrs: make([]api.Attr, 1<<18)},
	}
	for _, a := range odd {
		err := Check(a)
		if a.Kind < 1 || a.Kind > 4 {
			if err != api.ErrRange {
				t.Errorf("P1: a token of kind %d is %d", a.Kind, err)
			}
		}
		if s, wrote := Write(a); err != api.OK && (s != "" || wrote != err) {
			t.Errorf("P4: a token that may not be (%d) is written: %.40q, %d", err, s, wrote)
		}
		if got := Text(a); a.Kind != 3 && got != "" || a.Kind == 3 && got != a.Text {
			t.Errorf("P1: Text of a token of kind %d has %d octets", a.Kind, len(got))
		}
		for _, b := range odd {
			if Same(a, b) != isSame(a, b) {
				t.Errorf("P1: Same of kinds %d and %d", a.Kind, b.Kind)
			}
		}
	}
	if s, err := Write(odd...); s != "" || err != api.ErrRange {
		t.Errorf("P4: odd tokens are written: %.40q, %d", s, err)
	}
}

func TestNilAndEmptyListsAreOne(t *testing.T) { // P1
	if s, err := Write([]api.Token{}...); s != "" || err != api.OK {
		t.Errorf("P1: no tokens are written %q, %d", s, err)
	}
	if s, err := Write([]api.Token(nil)...); s != "" || err != api.OK {
		t.Errorf("P1: nil is written %q, %d", s, err)
	}
	for _, a := range goodTokens() {
		if len(a.Attrs) > 0 {
			continue
		}
		b := a
		b.Attrs = []api.Attr{}
		one, err := Write(a)
		two, same := Write(b)
		if one != two || err != same || Check(b) != Check(a) {
			t.Errorf("P1: nil and empty attributes of %+v are two", a)
		}
	}
}

func TestGreatTextsAnswer(t *testing.T) { // P1, Limits
	for _, piece := range []string{"a", "<", "</", "<a", "<a b=", "<a b=\"c\">", "<!--", "-->", "<?", "<title>", "</title", "<script>", "</script>", "&", "&#6", "\x00", "\xff", "é", "=", "\"", " ", "/"} {
		most := strings.Repeat(piece, api.MaxOut/len(piece))
		if _, err := Tokens(most); err != api.OK && err != api.ErrCount {
			t.Errorf("P1: %q, told often, is %d", piece, err)
		}
		if got, err := Tokens(strings.Repeat(piece, api.MaxOut)); len(piece) > 1 && (got != nil || err != api.ErrLong) {
			t.Errorf("P1: %q, told too often, is %d", piece, err)
		}
	}
}

func TestAnswersHangOnArgumentsAlone(t *testing.T) { // P3
	texts, tokens := oddTexts(), goodTokens()
	tell := func() string {
		var b strings.Builder
		for _, s := range texts {
			l, err := Tokens(s)
			wrote, refused := Write(l...)
			fmt.Fprintln(&b, l, err, wrote, refused, Text(l...))
		}
		for i, a := range tokens {
			wrote, err := Write(tokens[:i]...)
			fmt.Fprintln(&b, Check(a), Same(a, tokens[0]), wrote, err)
		}
		return b.String()
	}
	want := tell()
	got := make([]string, 8)
	var wait sync.WaitGroup
	for i := range got {
		wait.Go(func() { got[i] = tell() })
	}
	wait.Wait()
	for _, g := range got {
		if g != want {
			t.Error("P3: the calls answer otherwise from run to run")
		}
	}
}
