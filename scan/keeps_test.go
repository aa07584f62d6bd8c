package scan

import (
	"fmt"
	"slices"
	"strings"
	"sync"
	"testing"

	"muslin/api"
	"muslin/marks"
)

// manyStates are states of each kind, of which some may not be.
func manyStates(t *testing.T) []api.State {
	t.Helper()
	var out []api.State
	for _, ahead := range inEachState() {
		out = append(out, after(t, ahead))
	}
	for kind := -2; kind < 22; kind++ {
		out = append(out, odd(kind)...)
	}
	for _, s := range append(valueStates(), elementStates()...) {
		for part := range 16 {
			out = append(out, inPart(s, part, "word"))
		}
		s.Ref = "&am"
		out = append(out, s)
	}
	return out
}

func manyTexts() []string {
	return []string{"", "a", "<", "P", ">", "&", ";", "p;", "/", "-", "=", "\"", "'", " ", "x:", "url(", "`", "\xff", every(), "<p on='f(\"", "</title>", "a=b c='", "</scr", "<!--a--", "\"><style>u"}
}

// answersOf are all that the calls answer of a state and a text.
func answersOf(s api.State, text string) []api.State {
	fed, _, _ := Feed(s, text)
	none, _, _ := Feed(s, "")
	stepped, _ := Step(s, 'x')
	behind, _, _ := Hole(s)
	behindFed, _, _ := Hole(fed)
	return []api.State{fed, none, stepped, behind, behindFed}
}

func TestAnswersAreNewMemory(t *testing.T) { // P17.6, P2
	for _, s := range manyStates(t) {
		for _, text := range manyTexts() {
			given, _ := inOwnMemory(s)
			_, read := fresh(text)
			var all []string
			for _, a := range append(answersOf(given, read), answersOf(given, read)...) {
				all = append(all, textsOf(a)...)
			}
			all = slices.DeleteFunc(all, func(a string) bool { return a == "" })
			for i, a := range all {
				for _, b := range append(textsOf(given), read) {
					if shares(a, b) {
						t.Errorf("P17.6: an answer of %+v and %.40q shares its memory: %q", s, text, a)
					}
				}
				for _, b := range all[:i] {
					if shares(a, b) {
						t.Errorf("P17.6: two answers of %+v and %.40q share memory: %q, %q", s, text, a, b)
					}
				}
			}
		}
	}
}

func TestAnswersShareNoMemoryWithTheProgram(t *testing.T) { // P2
	for _, text := range []string{"<!---", "<!----", "</p", "<title></titl", "<script><!-", "<p a", "<p style='u", "<a href='&am", "<p class=&#6"} {
		for i := range len(text) + 1 {
			s := after(t, text[:i])
			for _, a := range textsOf(s) {
				for _, b := range append([]string{commentEnding, endTagBegins, endTagSign, remarkBegins}, textsOf(after(t, text))...) {
					if shares(a, b) {
						t.Errorf("P2: %q in the answer of %q is the program's", a, text[:i])
					}
				}
			}
		}
	}
	for c := range 256 {
		one, _ := Step(api.State{Kind: 3}, byte(c))
		two, _ := Step(api.State{Kind: 3}, byte(c))
		if shares(one.Elem, two.Elem) || shares(one.Elem, octet(byte(c))) || shares(one.Elem, small(octet(byte(c)))) {
			t.Errorf("P2: names of octet %d share memory", c)
		}
	}
}

func TestArgumentsAreNotChangedAndNotKept(t *testing.T) { // P17.6, P2
	for _, s := range manyStates(t) {
		for _, text := range manyTexts() {
			given, octets := inOwnMemory(s)
			textOctets, read := fresh(text)
			got := answersOf(given, read)
			if Ends(given); given != s || read != text {
				t.Errorf("P17.6: %+v or %.40q was changed", s, text)
			}
			for _, b := range append(octets, textOctets) {
				for i := range b {
					b[i] = '#'
				}
			}
			if !slices.Equal(got, answersOf(s, text)) {
				t.Errorf("P17.6: an answer of %+v and %.40q changes with what was handed in", s, text)
			}
		}
	}
}

func TestEveryCallAnswers(t *testing.T) { // P1, P4
	for _, s := range manyStates(t) {
		for _, text := range manyTexts() {
			answers(t, s, text)
		}
		for _, c := range []byte(every()) {
			got, err := Step(s, c)
			if err != api.OK && got != (api.State{}) || err == api.OK && marks.Check(got) != api.OK {
				t.Errorf("P4: Step(%+v, %q) is %+v, %d", s, c, got, err)
			}
		}
		got, kind, err := Hole(s)
		if err != api.OK && (got != (api.State{}) || kind != 0) || err == api.OK && (marks.Check(got) != api.OK || kind < 1 || kind > 12) {
			t.Errorf("P4: Hole(%+v) is %+v, %d, %d", s, got, kind, err)
		}
	}
}

func TestGreatTextsAnswer(t *testing.T) { // P1, Limits
	const count = 1 << 15
	for _, piece := range []string{"a", "<", "</", "<p>", "<p a=b>", "<p a='", "&", "&am", "&amp;", "&#6", "<!--", "-->", "-", "<title>", "</title", "<script>", "</script", "</script>", "x<!", "<style>", "/", "\"", "é", "\x00", "\xff", "<a href='x'>", "?", "<?", " "} {
		great, small := strings.Repeat(piece, count), strings.Repeat(piece, 64)
		for _, s := range []api.State{{}, {Kind: 5, Elem: "p"}, {Kind: 9, Elem: "a", Attr: "href", Delim: '"'}, {Kind: 9, Elem: "p", Attr: "class", Delim: '\''}, {Kind: 10, Elem: "p", Attr: "title"}, {Kind: 16}, {Kind: 17, Elem: "title"}, {Kind: 18, Elem: "style"}, {Kind: 19, Elem: "script"}} {
			want, place, wantErr := Feed(s, small) // it goes round by then
			got, at, err := Feed(s, great)
			if wantErr == api.OK {
				place = len(great)
			}
			if got != want || at != place || err != wantErr {
				t.Errorf("P1: %q, told often, leads from %+v to %+v, %d, %d, not %+v, %d, %d", piece, s, got, at, err, want, place, wantErr)
			}
		}
		for kind := -1; kind < 21; kind++ {
			for _, s := range []api.State{{Kind: kind, Elem: great}, {Kind: kind, Attr: great}, {Kind: kind, Pend: great}, {Kind: kind, Ref: great}, {Kind: kind, Word: great}} {
				refuses(t, s, great, 0, marks.Check(s))
				if got, esc, err := Hole(s); got != (api.State{}) || esc != 0 || err != marks.Check(s) {
					t.Errorf("P1: Hole of a great state of kind %d is %d", kind, err)
				}
			}
		}
	}
}

func TestAnswersHangOnArgumentsAlone(t *testing.T) { // P3
	states, texts := manyStates(t), manyTexts()
	tell := func() string {
		var b strings.Builder
		for _, s := range states {
			for _, text := range texts {
				fed, at, err := Feed(s, text)
				stepped, stepErr := Step(s, 'p')
				behind, kind, holeErr := Hole(s)
				fmt.Fprintln(&b, fed, at, err, stepped, stepErr, behind, kind, holeErr, Ends(s))
			}
		}
		return b.String()
	}
	want := tell()
	got := make([]string, 8)
	var wait sync.WaitGroup
	for i := range got {
		wait.Go(func() { got[i] = tell() })
	}
	wait.Wait()
	for _, g := range got {
		if g != want {
			t.Error("P3: the calls answer otherwise from run to run")
		}
	}
}
