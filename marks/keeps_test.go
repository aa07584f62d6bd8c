package marks

import (
	"fmt"
	"strings"
	"sync"
	"testing"

	"muslin/api"
)

// inOwnMemory is s with texts in octets that may be written to.
func inOwnMemory(s api.State) (api.State, [][]byte) {
	var octets [][]byte
	own := func(text string) string {
		b, given := fresh(text)
		octets = append(octets, b)
		return given
	}
	return api.State{Kind: s.Kind, Elem: own(s.Elem), Attr: own(s.Attr), Delim: s.Delim, Pend: own(s.Pend), Ref: own(s.Ref), Part: s.Part, Word: own(s.Word)}, octets
}

func TestAnswersAreNewMemory(t *testing.T) { // P13.4, P2
	for _, s := range oddStates() {
		given, _ := inOwnMemory(s)
		text := Print(given)
		one, _ := Parse(text)
		two, _ := Parse(text)
		answers := append(append(textsOf(one), textsOf(two)...), text, Print(given), Print(one), Print(Start()))
		for i, a := range answers {
			for j, b := range answers {
				if i != j && shares(a, b) {
					t.Errorf("P13.4: two answers of %+v share memory: %q, %q", s, a, b)
				}
			}
			for _, b := range textsOf(given) {
				if shares(a, b) {
					t.Errorf("P13.4: an answer of %+v shares its memory: %q", s, a)
				}
			}
		}
	}
}

func TestAnswersOfParseAreNewMemory(t *testing.T) { // P13.4, P2
	for _, s := range goodStates() {
		octets, text := fresh(printed(s))
		got, err := Parse(text)
		if string(octets) != printed(s) {
			t.Errorf("P13.4: Parse changed %q", printed(s))
		}
		for i := range octets {
			octets[i] = '#'
		}
		if got != s || err != api.OK {
			t.Errorf("P13.4: a state changes with the text that it was parsed of: %+v", got)
		}
		if again, _ := Parse(printed(s)); again != s {
			t.Errorf("P13.4: %q is parsed as %+v", printed(s), again)
		}
	}
}

func TestArgumentsAreNotChangedAndNotKept(t *testing.T) { // P13.4, P2
	for _, s := range oddStates() {
		given, octets := inOwnMemory(s)
		other, _ := inOwnMemory(s)
		text := Print(given)
		Check(given)
		Same(given, other)
		Kind(given)
		Differ(given, other)
		if given != s || other != s {
			t.Errorf("P13.4: %+v was changed", s)
		}
		for _, b := range octets {
			for i := range b {
				b[i] = '#'
			}
		}
		if text != printed(s) {
			t.Errorf("P13.4: Print of %+v changes with it", s)
		}
		if Print(s) != printed(s) || Check(s) != checked(s) || Differ(s, other) != 0 {
			t.Errorf("P13.4: what was told of %+v was kept", s)
		}
	}
}

func TestGreatTextsAnswer(t *testing.T) { // P1, Limits
	const count = 1 << 16
	for _, piece := range []string{"a", "|", "%", "%41", "%2f", "0", "-", "\x00", "\xff", "é", "0|||0|||0|", "/"} {
		great := strings.Repeat(piece, count)
		refused(t, api.ErrSyntax, great+"|", joined(great+"a", "", "", "0", "", "", "0", ""), joined("0", "", "", "0", "", "", "0", great+"%"))
		for kind := -1; kind < 21; kind++ {
			for _, s := range []api.State{{Kind: kind, Elem: great}, {Kind: kind, Attr: great}, {Kind: kind, Delim: '"', Word: great}} {
				if got := Check(s); got != checked(s) {
					t.Errorf("P1: a state of kind %d with a great text is %d", kind, got)
				}
				if Differ(s, s) != 0 || Same(s, Start()) || kind < 8 && Kind(s) != 0 {
					t.Errorf("P1: a state of kind %d with a great text is told otherwise", kind)
				}
			}
		}
		if text := Print(api.State{Elem: great, Word: great}); text != printed(api.State{Elem: great, Word: great}) {
			t.Errorf("P1: a state with %q, told often, is printed otherwise", piece)
		}
	}
	refused(t, api.ErrState, joined("5", strings.Repeat("a", count), "", "0", "", "", "0", ""))
}

func TestAnswersHangOnArgumentsAlone(t *testing.T) { // P3
	states := oddStates()
	tell := func() string {
		var b strings.Builder
		for i, s := range states {
			back, err := Parse(Print(s))
			fmt.Fprintf(&b, "%d %v %d %q %+v %d\n", Check(s), Same(s, states[0]), Differ(s, states[i/2]), Print(s), back, err)
			fmt.Fprintln(&b, Kind(s), Start())
		}
		return b.String()
	}
	want := tell()
	got := make([]string, 8)
	var wait sync.WaitGroup
	for i := range got {
		wait.Go(func() { got[i] = tell() })
	}
	wait.Wait()
	for _, g := range got {
		if g != want {
			t.Error("P3: the calls answer otherwise from run to run")
		}
	}
}
