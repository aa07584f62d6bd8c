package percent

import (
	"fmt"
	"strings"
	"sync"
	"testing"

	"muslin/api"
	"muslin/utf"
)

func TestEncodedComesBackRepaired(t *testing.T) { // P7.3
	holds := func(s string) {
		encoded := Encode(s)
		if got, size, err := Decode(encoded); got != utf.Repair(s) || size != len(encoded) || err != api.OK {
			t.Fatalf("P7.3: %.60q comes back as %.60q, %d, %d", s, got, size, err)
		}
		if again, _, _ := Decode(Encode(encoded)); again != encoded {
			t.Fatalf("P7.3: %.60q, encoded twice, comes back as %.60q", s, again)
		}
	}
	for _, s := range oddTexts() {
		holds(s)
	}
	for s := range smallTexts(smallPieces(), 4) {
		holds(s)
	}
	for n := range 0x110000 {
		if got, _, err := Decode(Encode(string(rune(n)))); got != utf.Repair(string(rune(n))) || err != api.OK {
			t.Fatalf("P7.3: character %x comes back as %q, %d", n, got, err)
		}
	}
}

func TestNormalIsOnesOwn(t *testing.T) { // P7.1
	holds := func(s string) {
		normal := Normal(s)
		if again := Normal(normal); again != normal {
			t.Fatalf("P7.1: Normal of %.60q is %.60q, and of that %.60q", s, normal, again)
		}
		if _, _, err := Decode(normal); err != api.OK {
			t.Fatalf("P7.1: Normal of %.60q is %.60q, which has a sign without its digits", s, normal)
		}
		if encoded := Encode(s); Normal(encoded) != encoded {
			t.Fatalf("P7.1: Normal changes what Encode tells of %.60q", s)
		}
		if strings.ContainsFunc(normal, func(c rune) bool { return !strings.ContainsRune(ofURLs+partsURLs+"%", c) }) {
			t.Fatalf("P7.1: Normal of %.60q has other octets than those of URLs: %.60q", s, normal)
		}
	}
	for _, s := range oddTexts() {
		holds(s)
	}
	for s := range smallTexts(smallPieces(), 4) {
		holds(s)
	}
}

// answersOf are the texts that the calls answer of s.
func answersOf(s string) []string {
	decoded, _, _ := Decode(s)
	return []string{Encode(s), Normal(s), decoded}
}

func TestAnswersAreNewMemory(t *testing.T) { // P7.4, P2
	for _, s := range oddTexts() {
		_, given := fresh(s)
		all := append(answersOf(given), answersOf(given)...)
		for i, a := range all {
			if shares(a, given) {
				t.Errorf("P7.4: an answer of %.40q shares its memory", s)
			}
			for _, b := range all[:i] {
				if shares(a, b) {
					t.Errorf("P7.4: two answers of %.40q share memory", s)
				}
			}
		}
	}
	for _, s := range []string{"a", "-", "/", "%41", "%00", "%25", "%ff"} { // texts of one octet among the answers
		a, _, _ := Decode(s)
		b, _, _ := Decode(s)
		if a != b || shares(a, b) || shares(Encode(s), Encode(s)) || shares(Normal(s), Normal(s)) || shares(a, Encode(a)) || shares(a, Normal(a)) {
			t.Errorf("P7.4: answers of %q share memory", s)
		}
	}
}

func TestArgumentsAreNotChanged(t *testing.T) { // P7.4, P2
	for _, s := range oddTexts() {
		octets, given := fresh(s)
		before := answersOf(given)
		if string(octets) != s {
			t.Errorf("P7.4: %.40q was changed", s)
		}
		for i := range octets {
			octets[i] = '%'
		}
		for i, want := range answersOf(s) {
			if before[i] != want {
				t.Errorf("P7.4: an answer of %.40q was kept in its argument's memory", s)
			}
		}
	}
}

func TestEveryCallAnswers(t *testing.T) { // P1, P4
	for _, s := range oddTexts() {
		text, at, err := Decode(s)
		if err == api.OK && at != len(s) || err != api.OK && (text != "" || at < 0 || at >= len(s) || s[at] != '%') || err != api.OK && err != api.ErrSyntax {
			t.Errorf("P4: Decode(%.40q) is %.40q, %d, %d", s, text, at, err)
		}
		if len(text) > len(s) || len(Encode(s)) > 9*len(s) || len(Normal(s)) > len(Encode(s)) {
			t.Errorf("P1: an answer of %.40q is too long", s)
		}
	}
}

func TestGreatTextsAnswer(t *testing.T) { // P1, Limits
	const count = 1 << 18
	for _, s := range []string{"a", "/", "%", "%4", "%4g", "%41", "%25", "%%41", "%25%", "é ", "\x00", "\xff", "\xe2\x82"} {
		great := strings.Repeat(s, count)
		if Encode(great) != strings.Repeat(encodedText(s), count) {
			t.Errorf("P1: %q, told often, is encoded otherwise", s)
		}
		if Normal(great) != strings.Repeat(normalText(s), count) {
			t.Errorf("P1: %q, told often, is normal otherwise", s)
		}
		text, size, err := decodedText(s)
		if err == api.OK {
			text, size = strings.Repeat(text, count), len(great)
		}
		if got, gotSize, gotErr := Decode(great); got != text || gotSize != size || gotErr != err {
			t.Errorf("P1: %q, told often, is decoded otherwise: %d, %d", s, gotSize, gotErr)
		}
	}
}

func TestAnswersHangOnArgumentsAlone(t *testing.T) { // P3
	texts := oddTexts()
	tell := func() string {
		var b strings.Builder
		for _, s := range texts {
			text, at, err := Decode(s)
			fmt.Fprintln(&b, Encode(s), Normal(s), text, at, err)
		}
		for c := range 256 {
			fmt.Fprintln(&b, Unreserved(byte(c)), Reserved(byte(c)))
		}
		return b.String()
	}
	want := tell()
	got := make([]string, 8)
	var wait sync.WaitGroup
	for i := range got {
		wait.Go(func() { got[i] = tell() })
	}
	wait.Wait()
	for _, g := range got {
		if g != want {
			t.Error("P3: the calls answer otherwise from run to run")
		}
	}
}
