package jstext

import (
	"fmt"
	"strings"
	"sync"
	"testing"

	"muslin/api"
	"muslin/utf"
)

func TestWhatIsEscapedComesBackAndIsSafe(t *testing.T) { // P9.3
	holds := func(s string) {
		told := Escape(s)
		if got, at, err := Decode(told); got != utf.Repair(s) || at != len(told) || err != api.OK {
			t.Fatalf("P9.3: %.60q is escaped as %.60q, and that is decoded as %.60q, %d, %d", s, told, got, at, err)
		}
		if !Safe(told) {
			t.Fatalf("P9.3: Escape(%.60q) is %.60q, which is not safe", s, told)
		}
		if !whatEscapeIs.MatchString(told) {
			t.Fatalf("P9.1: Escape(%.60q) is %.60q", s, told)
		}
	}
	for _, s := range oddTexts() {
		holds(s)
		holds(s + s)
		holds(Escape(s))
		holds("😀" + s + "\xf0\x9f")
	}
	for s := range smallTexts([]string{`\`, "u", "0041", "'", `"`, "<", "-", "\n", "\x00", "\xf0", "\x9f", "é", "😀", " "}, 5) {
		holds(s)
	}
}

// answersOf are the texts that the calls answer of s.
func answersOf(s string) []string {
	decoded, _, _ := Decode(s)
	again, _, _ := Decode(Escape(s))
	return []string{Escape(s), decoded, again}
}

func TestAnswersAreNewMemory(t *testing.T) { // P9.4, P2
	for _, s := range oddTexts() {
		_, given := fresh(s)
		all := append(answersOf(given), answersOf(given)...)
		for i, a := range all {
			if shares(a, given) {
				t.Errorf("P9.4: an answer of %.40q shares its memory", s)
			}
			for _, b := range all[:i] {
				if shares(a, b) {
					t.Errorf("P9.4: two answers of %.40q share memory", s)
				}
			}
		}
	}
}

func TestAnswersOfTheProgramsOwnTextsAreNewMemory(t *testing.T) { // P9.4, P2
	for _, s := range []string{"a", `\n`, `\ud83d`, `\x41`, `\u0041`, `\"`, "\x00", "\xff", "é"} {
		a, _, _ := Decode(s)
		b, _, _ := Decode(s)
		c, _, _ := Decode(s + s)
		for _, other := range []string{b, c, s, shortTexts, standIn, plainSigns} {
			if shares(a, other) {
				t.Errorf("P9.4: what Decode(%q) answers lies in the memory of another text", s)
			}
		}
		if shares(Escape(s), Escape(s)) || shares(Escape(s), s) || shares(Escape(s), standIn) {
			t.Errorf("P9.4: what Escape(%q) answers lies in the memory of another text", s)
		}
	}
}

func TestArgumentsAreNotChanged(t *testing.T) { // P9.4, P2
	for _, s := range oddTexts() {
		octets, given := fresh(s)
		before := answersOf(given)
		Safe(given)
		if string(octets) != s {
			t.Errorf("P9.4: %.40q was changed", s)
		}
		for i := range octets {
			octets[i] = '\\'
		}
		for i, want := range answersOf(s) {
			if before[i] != want {
				t.Errorf("P9.4: an answer of %.40q was kept in its argument's memory", s)
			}
		}
	}
}

func TestEveryCallAnswers(t *testing.T) { // P1, P4
	for _, s := range oddTexts() {
		switch got, at, err := Decode(s); {
		case err == api.OK && (at != len(s) || len(got) > len(s)):
			t.Errorf("P1: Decode(%.40q) is %.40q, %d", s, got, at)
		case err != api.OK && (err != api.ErrSyntax || got != "" || at < 0 || at >= len(s)):
			t.Errorf("P4: Decode(%.40q) is %.40q, %d, %d", s, got, at, err)
		}
		if got := Escape(s); len(got) > 6*len(s) || len(got) < utf.Count(s) {
			t.Errorf("P1: Escape(%.40q) is %.40q", s, got)
		}
	}
}

func TestGreatTextsAnswer(t *testing.T) { // P1, Limits
	const count = 1 << 16
	for _, piece := range []string{"a", `\`, `\\`, `\u`, `\u0041`, `\ud83d`, `\ude00`, `\ud83d\ude00`, `\ude00\ud83d`, `\x41`, `\x`, `\n`, `"`, "\n", "é ", "😀", "\x00", "\xff", "\xe2\x82", "-"} {
		for _, s := range []string{strings.Repeat(piece, count), strings.Repeat(piece, count) + "'", `\ud83d` + strings.Repeat(piece, count) + `\`} {
			want, wantAt, wantErr := decoded(s)
			if got, at, err := Decode(s); got != want || at != wantAt || err != wantErr {
				t.Errorf("P1: %q, told often, is decoded otherwise: %.40q, %d, %d", piece, got, at, err)
			}
			if Escape(s) != escaped(s) {
				t.Errorf("P1: %q, told often, is escaped otherwise", piece)
			}
			if Safe(s) == unsafeSign.MatchString(s) {
				t.Errorf("P1: %q, told often, is safe: %t", piece, Safe(s))
			}
		}
	}
}

func TestAnswersHangOnArgumentsAlone(t *testing.T) { // P3
	texts := oddTexts()
	tell := func() string {
		var b strings.Builder
		for _, s := range texts {
			text, at, err := Decode(s)
			fmt.Fprintln(&b, Escape(s), text, at, err, Safe(s))
		}
		return b.String()
	}
	want := tell()
	got := make([]string, 8)
	var wait sync.WaitGroup
	for i := range got {
		wait.Go(func() { got[i] = tell() })
	}
	wait.Wait()
	for _, g := range got {
		if g != want {
			t.Error("P3: the calls answer otherwise from run to run")
		}
	}
}
