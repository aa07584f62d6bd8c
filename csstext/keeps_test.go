package csstext

import (
	"fmt"
	"strings"
	"sync"
	"testing"
)

func TestWhatIsFilteredIsPlain(t *testing.T) { // P10.2
	holds := func(s string) {
		got := Filter(s)
		if !Plain(got) || !isPlain(got) {
			t.Fatalf("P10.2: Filter(%.60q) is %.60q, which is not plain", s, got)
		}
		if again := Filter(got); again != got {
			t.Fatalf("P10.2: Filter(%.60q) is %.60q, and of that %.60q", s, got, again)
		}
	}
	for _, s := range oddTexts() {
		holds(s)
		holds(s + s)
		holds(Marker() + s)
		holds(s + "url")
	}
	for s := range smallTexts(smallPieces(), 5) {
		holds(s)
	}
}

func TestPartsOfPlainTextsArePlain(t *testing.T) { // P10.1
	for _, s := range plainTexts() {
		step := 1 + len(s)/100
		for from := 0; from <= len(s); from += step {
			for to := from; to <= len(s); to += step {
				if !Plain(s[from:to]) {
					t.Fatalf("P10.1: of %.60q the part %.60q is not plain", s, s[from:to])
				}
			}
		}
	}
}

func TestTextsThatGrowPlainByACut(t *testing.T) { // P10.1
	for s, at := range map[string]int{"a;b": 1, ";a": 0, "a;": 1, "a\nb": 1, "é"[:1] + "a": 0, "a\xff": 1, "url": 0, "curl": 2, "uurl": 3, "expression": 9, "an expression 1": 5, "URL": 1} {
		cut := s[:at] + s[at+1:]
		if Plain(s) || !Plain(cut) || Filter(s) != mark || Filter(cut) != cut {
			t.Errorf("P10.1: %q is plain, or %q is not", s, cut)
		}
	}
}

// answersOf are the texts that the calls answer of s.
func answersOf(s string) []string {
	return []string{Filter(s), Marker()}
}

func TestAnswersAreNewMemory(t *testing.T) { // P10.3, P2
	for _, s := range append(oddTexts(), mark) {
		_, given := fresh(s)
		all := append(answersOf(given), answersOf(given)...)
		for i, a := range all {
			if shares(a, given) {
				t.Errorf("P10.3: an answer of %.40q shares its memory", s)
			}
			for _, b := range all[:i] {
				if shares(a, b) {
					t.Errorf("P10.3: two answers of %.40q share memory", s)
				}
			}
		}
	}
}

func TestTheMarkerIsNewMemory(t *testing.T) { // P10.3, P2
	_, given := fresh(mark)
	all := []string{Marker(), Marker(), Filter(";"), Filter("url"), Filter(";"), Filter(given), Filter(given), marker, given}
	for i, a := range all {
		if a != mark {
			t.Errorf("P10.3: answer %d is %q", i, a)
		}
		for j, b := range all[:i] {
			if shares(a, b) {
				t.Errorf("P10.3: of Marker's texts, %d and %d share memory", j, i)
			}
		}
	}
}

func TestAnswersOfOneOctetAreNewMemory(t *testing.T) { // P10.3, P2
	for i := range 256 {
		s := string([]byte{byte(i)})
		a, b := Filter(s), Filter(s)
		if shares(a, b) || shares(a, s) || shares(b, s) {
			t.Errorf("P10.3: answers of %q share memory", s)
		}
	}
}

func TestArgumentsAreNotChanged(t *testing.T) { // P10.3, P2
	for _, s := range oddTexts() {
		octets, given := fresh(s)
		before := answersOf(given)
		Plain(given)
		if string(octets) != s {
			t.Errorf("P10.3: %.40q was changed", s)
		}
		for i := range octets {
			octets[i] = ';'
		}
		for i, want := range answersOf(s) {
			if before[i] != want {
				t.Errorf("P10.3: an answer of %.40q was kept in its argument's memory", s)
			}
		}
	}
}

func TestGreatTextsAnswer(t *testing.T) { // P1, Limits
	const count = 1 << 16
	for _, piece := range []string{"a", "U", "url", "expression", "expressio", ";", " ", "\x00", "\xff", "é", "\xe2\x82", mark} {
		great := strings.Repeat(piece, count)
		for _, s := range []string{great, ";" + great, great + ";", "url" + great} {
			if Plain(s) || Filter(s) != mark {
				t.Errorf("P1: %q, told often, is plain", piece)
			}
		}
	}
}

func TestAnswersHangOnArgumentsAlone(t *testing.T) { // P3
	texts := oddTexts()
	tell := func() string {
		var b strings.Builder
		for _, s := range texts {
			fmt.Fprintln(&b, Plain(s), Filter(s), Marker())
		}
		return b.String()
	}
	want := tell()
	got := make([]string, 8)
	var wait sync.WaitGroup
	for i := range got {
		wait.Go(func() { got[i] = tell() })
	}
	wait.Wait()
	for _, g := range got {
		if g != want {
			t.Error("P3: the calls answer otherwise from run to run")
		}
	}
}
