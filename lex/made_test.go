package lex

import (
	"fmt"
	"math/big"
	"regexp"
	"slices"
	"strings"
	"testing"
	"unsafe"

	"muslin/api"
)

const (
	blanks = "\t\n\f\r "
	most   = 32 // octets of a name
)

// octet is a text of one octet.
func octet(c byte) string {
	return string([]byte{c})
}

// every is a text of all octets.
func every() string {
	out := make([]byte, 256)
	for i := range out {
		out[i] = byte(i)
	}
	return string(out)
}

// text and inside are pieces in short.
func text(s string, at int) Item { return Item{1, s, at} }

func inside(s string, at int) Item { return Item{2, s, at} }

// brief is what was answered, as far as a person wants to see it.
func brief(answer any) string {
	return fmt.Sprintf("%.300s", fmt.Sprintf("%+v", answer))
}

// cuts tells whether Items answers those pieces.
func cuts(t *testing.T, s string, want ...Item) {
	t.Helper()
	if got, at, err := Items(s); !slices.Equal(got, want) || at != len(s) || err != api.OK {
		t.Errorf("P18.1: Items(%.80q) is %s, %d, %d, not %s, %d", s, brief(got), at, err, brief(want), len(s))
	}
}

// endless tells whether Items refuses the action at that place.
func endless(t *testing.T, s string, place int) {
	t.Helper()
	if got, at, err := Items(s); got != nil || at != place || err != api.ErrShort {
		t.Errorf("P18.1: Items(%.80q) is %s, %d, %d, not ErrShort at %d", s, brief(got), at, err, place)
	}
}

// has tells whether Words answers those words, wherever the action stands.
func has(t *testing.T, s string, want ...Word) {
	t.Helper()
	for _, base := range []int{0, 1, 700, -5} {
		moved := slices.Clone(want)
		for i := range moved {
			moved[i].At += base
		}
		if got, at, err := Words(s, base); !slices.Equal(got, moved) || at != base || err != api.OK {
			t.Errorf("P18.2: Words(%.80q, %d) is %s, %d, %d, not %s", s, base, brief(got), at, err, brief(moved))
		}
	}
}

// hasNot tells whether Words refuses what stands at that place, wherever the action stands.
func hasNot(t *testing.T, s string, place int, want api.Errno) {
	t.Helper()
	for _, base := range []int{0, 1, 700, -5} {
		if got, at, err := Words(s, base); got != nil || at != base+place || err != want {
			t.Errorf("P18.2: Words(%.80q, %d) is %s, %d, %d, not %d at %d", s, base, brief(got), at, err, want, base+place)
		}
	}
}

// A second reading of templates: the octets that are kept of the text behind the last action, each with its place, and actions by expressions.

type kept struct {
	octet byte
	at    int
}

var (
	remarkBegin = regexp.MustCompile(`^-?[\t\n\f\r ]*/\*`)
	actionEnd   = regexp.MustCompile(`^(?s)(?:"(?:[^"\\]|\\.)*"|[^"])*?\}\}`)
	trimAhead   = regexp.MustCompile(`^-[\t\n\f\r ]`)
	trimBehind  = regexp.MustCompile(`[\t\n\f\r ]-$`)
)

// isKept tells a text that was kept.
func isKept(of []kept) Item {
	s := ""
	for _, k := range of {
		s += octet(k.octet)
	}
	return text(s, of[0].at)
}

// pieces is what Items should answer.
func pieces(s string) ([]Item, int, api.Errno) {
	var out []Item
	var seen []kept
	trimmed := false
	for at := 0; ; {
		ahead, _, _ := strings.Cut(s[at:], "{{")
		size := len(ahead)
		for i := at; i < at+size; i++ {
			if trimmed = trimmed && strings.IndexByte(blanks, s[i]) >= 0; !trimmed {
				seen = append(seen, kept{s[i], i})
			}
		}
		at += size
		if at == len(s) {
			if len(seen) > 0 {
				out = append(out, isKept(seen))
			}
			return out, at, api.OK
		}
		rest := s[at+2:]
		begin := remarkBegin.FindString(rest)
		from := len(begin)
		if begin != "" {
			inner := strings.Index(rest[from:], "*/")
			if inner < 0 {
				return nil, at, api.ErrShort
			}
			from += inner + 2
		}
		end := actionEnd.FindString(rest[from:])
		if end == "" {
			return nil, at, api.ErrShort
		}
		within := rest[:from+len(end)-2]
		left, right := trimAhead.MatchString(within), trimBehind.MatchString(within)
		for left && len(seen) > 0 && strings.IndexByte(blanks, seen[len(seen)-1].octet) >= 0 {
			seen = seen[:len(seen)-1]
		}
		if begin == "" {
			if len(seen) > 0 {
				out = append(out, isKept(seen))
			}
			seen = nil
			bare := within
			if left {
				bare = strings.Replace(bare, "-", "", 1)
			}
			if right {
				bare = strings.TrimSuffix(bare, "-")
			}
			out = append(out, inside(strings.Trim(bare, blanks), at))
		}
		at += 2 + len(within) + 2
		trimmed = right
	}
}

// cutsAsShould holds Items against the second reading.
func cutsAsShould(t *testing.T, s string) {
	t.Helper()
	want, place, wantErr := pieces(s)
	if got, at, err := Items(s); !slices.Equal(got, want) || at != place || err != wantErr {
		t.Fatalf("P18.1: Items(%q) is %+v, %d, %d, not %+v, %d, %d", s, got, at, err, want, place, wantErr)
	}
}

// A second reading of words: whole ones by expressions.

var (
	wholeBlanks   = regexp.MustCompile(`^[\t\n\f\r ]+`)
	wholeName     = regexp.MustCompile(`^[A-Za-z_]\w*`)
	wholePath     = regexp.MustCompile(`^(?:\.[A-Za-z_]\w*)+|^\.`)
	wholeVariable = regexp.MustCompile(`^\$(?:[A-Za-z_]\w*)?(?:\.[A-Za-z_]\w*)*`)
	wholeNumber   = regexp.MustCompile(`^-?[0-9]+|^-`)
	goodNumber    = regexp.MustCompile(`^(?:0|-?[1-9][0-9]*)$`)
	textBegin     = regexp.MustCompile(`^"(?:[^"\\\n]|\\[nt\\"])*`)
	wholeSign     = regexp.MustCompile(`^(?:\||:=)`)
	anyName       = regexp.MustCompile(`\w+`)
	stoodFor      = strings.NewReplacer(`\n`, "\n", `\t`, "\t", `\\`, `\`, `\"`, `"`)
)

// tooLong tells whether one of the names of a word is.
func tooLong(word string) bool {
	return slices.ContainsFunc(anyName.FindAllString(word, -1), func(name string) bool { return len(name) > most })
}

// wordOf is the first word of s and how long it is there, or where an error of it is.
func wordOf(s string) (Word, int, api.Errno) {
	if word := wholeName.FindString(s); word != "" {
		if tooLong(word) {
			return Word{}, 0, api.ErrLong
		}
		return Word{Kind: 1, Text: word}, len(word), api.OK
	}
	for kind, whole := range []*regexp.Regexp{2: wholePath, 3: wholeVariable} {
		if kind < 2 || whole.FindString(s) == "" {
			continue
		}
		word := whole.FindString(s)
		switch rest := s[len(word):]; {
		case tooLong(word):
			return Word{}, 0, api.ErrLong
		case word != "." && len(rest) > 1 && rest[0] == '.':
			return Word{}, 0, api.ErrSyntax
		}
		return Word{Kind: kind, Text: word}, len(word), api.OK
	}
	if word := wholeNumber.FindString(s); word != "" {
		n, _ := new(big.Int).SetString(word, 10)
		switch {
		case !goodNumber.MatchString(word):
			return Word{}, 0, api.ErrSyntax
		case !n.IsInt64():
			return Word{}, 0, api.ErrRange
		}
		return Word{Kind: 4, Text: word}, len(word), api.OK
	}
	if word := wholeSign.FindString(s); word != "" {
		return Word{Kind: 6, Text: word}, len(word), api.OK
	}
	return textOf(s)
}

// textOf is as wordOf of a text.
func textOf(s string) (Word, int, api.Errno) {
	begin := textBegin.FindString(s)
	stands := stoodFor.Replace(strings.TrimPrefix(begin, `"`))
	switch {
	case begin == "", len(begin) == len(s):
		return Word{}, 0, api.ErrSyntax
	case s[len(begin)] != '"':
		return Word{}, len(begin), api.ErrSyntax
	case len(stands) > 4096:
		return Word{}, 0, api.ErrLong
	}
	return Word{Kind: 5, Text: stands}, len(begin) + 1, api.OK
}

// wordsOf is what Words should answer.
func wordsOf(s string, base int) ([]Word, int, api.Errno) {
	var out []Word
	for at := 0; ; {
		at += len(wholeBlanks.FindString(s[at:]))
		if at == len(s) {
			return out, base, api.OK
		}
		word, size, err := wordOf(s[at:])
		if err != api.OK {
			return nil, base + at + size, err
		}
		word.At = base + at
		out = append(out, word)
		at += size
	}
}

// readsAsShould holds Words against the second reading.
func readsAsShould(t *testing.T, s string, base int) {
	t.Helper()
	want, place, wantErr := wordsOf(s, base)
	if got, at, err := Words(s, base); !slices.Equal(got, want) || at != place || err != wantErr {
		t.Fatalf("P18.2: Words(%q, %d) is %+v, %d, %d, not %+v, %d, %d", s, base, got, at, err, want, place, wantErr)
	}
}

// smallTexts hands out all texts of at most so many of the pieces.
func smallTexts(pieces []string, most int) func(yield func(s string) bool) {
	return func(yield func(s string) bool) {
		var grow func(s string, more int) bool
		grow = func(s string, more int) bool {
			if !yield(s) {
				return false
			}
			for _, piece := range pieces {
				if more > 0 && !grow(s+piece, more-1) {
					return false
				}
			}
			return true
		}
		grow("", most)
	}
}

// fresh is s in octets that may be written to, and they read as a text.
func fresh(s string) ([]byte, string) {
	b := []byte(s)
	if len(b) == 0 {
		return nil, ""
	}
	return b, unsafe.String(&b[0], len(b))
}

// shares tells whether two texts have an octet of memory in common.
func shares(a string, b string) bool {
	if a == "" || b == "" {
		return false
	}
	from, to := uintptr(unsafe.Pointer(unsafe.StringData(a))), uintptr(unsafe.Pointer(unsafe.StringData(b)))
	return from < to+uintptr(len(b)) && to < from+uintptr(len(a))
}
