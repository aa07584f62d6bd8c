package schemes

import (
	"fmt"
	"strings"
	"sync"
	"testing"
)

func TestWhatIsFilteredHasNoOtherScheme(t *testing.T) { // P8.2
	holds := func(s string) {
		got := Filter(s)
		if found := schemed.FindString(got); found != "" && !allowed.MatchString(got) {
			t.Fatalf("P8.2: Filter(%.60q) is %.60q, whose scheme is not allowed", s, got)
		}
		if scheme, ok := Scheme(got); ok && !Allowed(scheme) {
			t.Fatalf("P8.2: Filter(%.60q) is %.60q, whose scheme is %.60q", s, got, scheme)
		}
		before, had := Scheme(s)
		after, has := Scheme(got)
		if had && Allowed(before) && (before != after || !has) || !had && has {
			t.Fatalf("P8.2: Filter(%.60q) is %.60q: its scheme was %.60q, and is %.60q", s, got, before, after)
		}
		if again := Filter(got); again != got {
			t.Fatalf("P8.1: Filter(%.60q) is %.60q, and of that %.60q", s, got, again)
		}
	}
	for _, s := range oddTexts() {
		holds(s)
		holds("http:" + s)
		holds("/" + s)
		holds(s + s)
	}
	for s := range smallTexts(smallPieces(), 5) {
		holds(s)
	}
}

// answersOf are the texts that the calls answer of s.
func answersOf(s string) []string {
	scheme, _ := Scheme(s)
	return []string{scheme, Filter(s), Marker()}
}

func TestAnswersAreNewMemory(t *testing.T) { // P8.3, P2
	for _, s := range oddTexts() {
		_, given := fresh(s)
		all := append(answersOf(given), answersOf(given)...)
		for i, a := range all {
			if shares(a, given) {
				t.Errorf("P8.3: an answer of %.40q shares its memory", s)
			}
			for _, b := range all[:i] {
				if shares(a, b) {
					t.Errorf("P8.3: two answers of %.40q share memory", s)
				}
			}
		}
	}
}

func TestTheMarkerIsNewMemory(t *testing.T) { // P8.3, P2
	_, given := fresh(mark)
	all := []string{Marker(), Marker(), Filter("a:"), Filter("b:"), Filter("a:"), Filter(given), Filter(given), marker, given}
	for i, a := range all {
		if a != mark {
			t.Errorf("P8.3: answer %d is %q", i, a)
		}
		for j, b := range all[:i] {
			if shares(a, b) {
				t.Errorf("P8.3: of Marker's texts, %d and %d share memory", j, i)
			}
		}
	}
}

func TestSchemesOfOneOctetAreNewMemory(t *testing.T) { // P8.3, P2
	for i := range 256 {
		s := string([]byte{byte(i)}) + ":"
		a, ok := Scheme(s)
		b, _ := Scheme(s)
		if ok && (a != b || shares(a, b)) || shares(a, s) {
			t.Errorf("P8.3: schemes of %q share memory", s)
		}
	}
}

func TestArgumentsAreNotChanged(t *testing.T) { // P8.3, P2
	for _, s := range oddTexts() {
		octets, given := fresh(s)
		before := answersOf(given)
		Allowed(given)
		if string(octets) != s {
			t.Errorf("P8.3: %.40q was changed", s)
		}
		for i := range octets {
			octets[i] = ':'
		}
		for i, want := range answersOf(s) {
			if before[i] != want {
				t.Errorf("P8.3: an answer of %.40q was kept in its argument's memory", s)
			}
		}
	}
}

func TestEveryCallAnswers(t *testing.T) { // P1, P4
	for _, s := range oddTexts() {
		scheme, ok := Scheme(s)
		if !ok && scheme != "" || ok && len(scheme) >= len(s) {
			t.Errorf("P4: Scheme(%.40q) is %.40q, %t", s, scheme, ok)
		}
		if Allowed(s) != (s == "http" || s == "https" || s == "mailto") {
			t.Errorf("P1: Allowed(%.40q) is %t", s, Allowed(s))
		}
		if got := Filter(s); len(got) > 9*len(s)+len(mark) || got == "" && s != "" {
			t.Errorf("P1: Filter(%.40q) is %.40q", s, got)
		}
	}
}

func TestGreatTextsAnswer(t *testing.T) { // P1, Limits
	const count = 1 << 16
	for _, piece := range []string{"a", "A", ":", "/", "?", "#", "%", "%41", "é ", "\x00", "\xff", "\xe2\x82", "http:", "a/b:"} {
		great := strings.Repeat(piece, count)
		for _, s := range []string{great, great + ":", "http:" + great, "/" + great, great + "/:", "x:" + great} {
			want, wantOK := schemeOf(s)
			if got, ok := Scheme(s); got != want || ok != wantOK {
				t.Errorf("P1: %q, told often, has another scheme: %.40q, %t", piece, got, ok)
			}
			if Filter(s) != filtered(s) {
				t.Errorf("P1: %q, told often, is filtered otherwise", piece)
			}
			if Allowed(s) {
				t.Errorf("P1: %q, told often, is allowed", piece)
			}
		}
	}
}

func TestAnswersHangOnArgumentsAlone(t *testing.T) { // P3
	texts := oddTexts()
	tell := func() string {
		var b strings.Builder
		for _, s := range texts {
			scheme, ok := Scheme(s)
			fmt.Fprintln(&b, scheme, ok, Allowed(s), Allowed(scheme), Filter(s), Marker())
		}
		return b.String()
	}
	want := tell()
	got := make([]string, 8)
	var wait sync.WaitGroup
	for i := range got {
		wait.Go(func() { got[i] = tell() })
	}
	wait.Wait()
	for _, g := range got {
		if g != want {
			t.Error("P3: the calls answer otherwise from run to run")
		}
	}
}
