package refs

import (
	"fmt"
	"strings"
	"sync"
	"testing"

	"muslin/utf"
)

func TestEscapedComesBackRepaired(t *testing.T) { // P6.3
	for _, s := range oddTexts() {
		if got, want := Decode(Escape(s)), utf.Repair(s); got != want {
			t.Errorf("P6.3: %.80q comes back as %.80q, not %.80q", s, got, want)
		}
		if got, want := Decode(Escape(Escape(s))), Escape(s); got != want {
			t.Errorf("P6.3: %.80q, escaped twice, comes back as %.80q, not %.80q", s, got, want)
		}
	}
	for s := range smallTexts("&#;x6amplt<+'\x00\xc3\xa9", 4) {
		if got, want := Decode(Escape(s)), utf.Repair(s); got != want {
			t.Fatalf("P6.3: %q comes back as %q, not %q", s, got, want)
		}
	}
}

func TestEscapedIsClean(t *testing.T) { // P6.4
	for _, s := range oddTexts() {
		if !Clean(Escape(s)) {
			t.Errorf("P6.4: Escape(%.80q) is not clean", s)
		}
	}
	for a := range 256 {
		for b := range 256 {
			if s := string([]byte{byte(a), byte(b)}); !Clean(Escape(s)) {
				t.Fatalf("P6.4: Escape(%q) is not clean", s)
			}
		}
	}
}

func TestEscapedBehindATextIsDecodedByItself(t *testing.T) { // P6.4
	texts := []string{"", ";", "p;", "amp;", "lt;", "#65;", "65;", "41;", "x41;", "a", "&", "<b>", "+", "\"'", "é", "\x00", "\xff;", "&amp;", "&#65;", ";;"}
	held := 0
	for _, ahead := range oddTexts() {
		if onItsWayAtEnd(ahead) {
			continue
		}
		held++
		for _, s := range texts {
			if got, want := Decode(ahead+Escape(s)), Decode(ahead)+utf.Repair(s); got != want {
				t.Errorf("P6.4: behind %.80q %q is decoded to %.80q, not %.80q", ahead, s, got, want)
			}
		}
	}
	if held < 100 {
		t.Errorf("P6.4: only %d texts have been held", held)
	}
	for ahead := range smallTexts("&#;x6ampl", 4) {
		if onItsWayAtEnd(ahead) {
			continue
		}
		for _, s := range texts[:8] {
			if got, want := Decode(ahead+Escape(s)), Decode(ahead)+utf.Repair(s); got != want {
				t.Fatalf("P6.4: behind %q %q is decoded to %q, not %q", ahead, s, got, want)
			}
		}
	}
}

func TestEscapedBehindAnUnfinishedText(t *testing.T) { // P6.4, P6.1
	for _, c := range []struct{ ahead, s, want string }{
		{"&", "amp;", "&"},
		{"&am", "p;", "&"},
		{"a&lt", ";b", "a<b"},
		{"&", "#65;", "A"},
		{"&#", "65;", "A"},
		{"&#6", "5;", "A"},
		{"&#x4", "1;", "A"},
		{"&am", "x", "&amx"},
		{"&am", "&p;", "&am&p;"},
		{"&#6", "+5;", "&#6+5;"},
		{"&amp", "", "&amp"},
		{"&#1234567", "8;", "&#12345678;"},
	} {
		if !onItsWayAtEnd(c.ahead) {
			t.Fatalf("P6.4: %q is no text that is unfinished at its end", c.ahead)
		}
		if got := Decode(c.ahead + Escape(c.s)); got != c.want {
			t.Errorf("P6.1: behind %q %q is decoded to %q, not %q", c.ahead, c.s, got, c.want)
		}
	}
}

// answersOf are the texts that the calls answer of s.
func answersOf(s string) []string {
	one, _ := One(s)
	return []string{Escape(s), Decode(s), one}
}

func TestAnswersAreNewMemory(t *testing.T) { // P6.5, P2
	for _, s := range oddTexts() {
		_, given := fresh(s)
		one, two := answersOf(given), answersOf(given)
		all := append(one, two...)
		for i, a := range all {
			if shares(a, given) {
				t.Errorf("P6.5: an answer of %.40q shares its memory", s)
			}
			for _, b := range all[:i] {
				if shares(a, b) {
					t.Errorf("P6.5: two answers of %.40q share memory", s)
				}
			}
		}
	}
	for _, ref := range []string{"&amp;", "&#65;", "&#233;", "&#0;", "&#x110000;"} {
		a, _ := One(ref)
		if b := Decode(ref); a != b || shares(a, b) || shares(a, Escape(b)) {
			t.Errorf("P6.5: answers of %q share memory", ref)
		}
	}
}

func TestArgumentsAreNotChanged(t *testing.T) { // P6.5, P2
	for _, s := range oddTexts() {
		octets, given := fresh(s)
		before := answersOf(given)
		Unfinished(given)
		Clean(given)
		if string(octets) != s {
			t.Errorf("P6.5: %.40q was changed", s)
		}
		for i := range octets {
			octets[i] = '#'
		}
		for i, want := range answersOf(s) {
			if before[i] != want {
				t.Errorf("P6.5: an answer of %.40q was kept in its argument's memory", s)
			}
		}
	}
}

func TestEveryCallAnswers(t *testing.T) { // P1, P4
	for _, s := range oddTexts() {
		if stands, size := One(s); (stands == "") != (size == 0) || size < 0 || size > len(s) {
			t.Errorf("P4: One(%.40q) is %q, %d", s, stands, size)
		}
		if len(Decode(s)) > len(s) {
			t.Errorf("P1: Decode(%.40q) is longer than that", s)
		}
	}
}

func TestGreatTextsAnswer(t *testing.T) { // P1, Limits
	const count = 1 << 19
	for _, s := range []string{"&", "&#", "&a", "&amp", "&#x", "&#0", "&#1234567", ";", "&amp;", "&#65;", "a", "<", "\xff", "é+", "&#x10ffff;&"} {
		great := strings.Repeat(s, count)
		if Decode(great) != strings.Repeat(decoded(s), count) || Escape(great) != strings.Repeat(escapedText(s), count) {
			t.Errorf("P1: %q, told often, is told otherwise", s)
		}
		wantStands, wantSize := oneOf(s)
		if stands, size := One(great); stands != wantStands || size != wantSize {
			t.Errorf("P1: One of %q, told often, is %q, %d", s, stands, size)
		}
		if Unfinished(great) || Clean(great) != (s != "<") {
			t.Errorf("P1: %q, told often, is unfinished, or not as clean as once", s)
		}
	}
	if digits := strings.Repeat("0", 1<<24); Unfinished("&#"+digits) || Decode("&#"+digits+";") != "&#"+digits+";" {
		t.Error("P1: a number of many digits is taken for a reference")
	}
}

func TestAnswersHangOnArgumentsAlone(t *testing.T) { // P3
	tell := func() string {
		var b strings.Builder
		for _, s := range oddTexts() {
			stands, size := One(s)
			b.WriteString(fmt.Sprintln(Escape(s), Decode(s), stands, size, Unfinished(s), Clean(s)))
		}
		return b.String()
	}
	want := tell()
	got := make([]string, 8)
	var wait sync.WaitGroup
	for i := range got {
		wait.Go(func() { got[i] = tell() })
	}
	wait.Wait()
	for _, g := range got {
		if g != want {
			t.Error("P3: the calls answer otherwise from run to run")
		}
	}
}
