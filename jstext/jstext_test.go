package jstext

import (
	"encoding/json"
	"fmt"
	"strings"
	"testing"
	"unicode/utf16"
	"unicode/utf8"

	"muslin/api"
	"muslin/utf"
)

func TestEscape(t *testing.T) { // P9.1
	for _, c := range []struct{ s, want string }{
		{"", ""},
		{"'", `\u0027`},
		{`"`, `\u0022`},
		{`\`, `\u005c`},
		{"a", "a"},
		{"az AZ 09 _.,", "az AZ 09 _.,"},
		{"a b", "a b"},
		{"\n", `\u000a`},
		{"\r\n", `\u000d\u000a`},
		{"\t", `\u0009`},
		{"\x7f", `\u007f`},
		{"\x01", `\u0001`},
		{"\x00", `\ufffd`},
		{"a\x00b", `a\ufffdb`},
		{"\xff", `\ufffd`},
		{"\xff\xfe", `\ufffd\ufffd`},
		{"a\xc3b", `a\ufffdb`},
		{"\xe2\x82", `\ufffd\ufffd`},
		{"\xf0\x9f\x98", `\ufffd\ufffd\ufffd`},
		{"\xed\xa0\xbd", `\ufffd\ufffd\ufffd`},
		{"\xc0\x80", `\ufffd\ufffd`},
		{"\xf4\x90\x80\x80", `\ufffd\ufffd\ufffd\ufffd`},
		{"\u0080", `\u0080`},
		{"é", `\u00e9`},
		{"\u07ff", `\u07ff`},
		{"\u0800", `\u0800`},
		{"€", `\u20ac`},
		{"\uabcd", `\uabcd`},
		{"\u2028\u2029", `\u2028\u2029`},
		{"\ud7ff\ue000", `\ud7ff\ue000`},
		{"\ufffd", `\ufffd`},
		{"\ufffe", `\ufffe`},
		{"\uffff", `\uffff`},
		{"\U00010000", `\ud800\udc00`},
		{"\U000103ff", `\ud800\udfff`},
		{"\U00010400", `\ud801\udc00`},
		{"😀", `\ud83d\ude00`},
		{"\U000fffff", `\udbbf\udfff`},
		{"\U00100000", `\udbc0\udc00`},
		{"\U0010ffff", `\udbff\udfff`},
		{"a😀b", `a\ud83d\ude00b`},
		{"</script>", `\u003c\u002fscript\u003e`},
		{"<!--", `\u003c\u0021\u002d\u002d`},
		{"it's", `it\u0027s`},
		{`\u0041`, `\u005cu0041`},
		{`\n`, `\u005cn`},
		{"1+2-3", `1\u002b2\u002d3`},
		{"a@b", `a\u0040b`},
		{"a-b;c:d", `a\u002db\u003bc\u003ad`},
		{"٣", `\u0663`},
		{"ａ", `\uff41`},
		{"\u00a0", `\u00a0`},
		{"\u0141", `\u0141`},
		{"\u0120", `\u0120`},
		{"\U00010041", `\ud800\udc41`},
	} {
		if got := Escape(c.s); got != c.want {
			t.Errorf("P9.1: Escape(%q) is %s, not %s", c.s, got, c.want)
		}
	}
}

func TestEscapeOfEveryOctet(t *testing.T) { // P9.1
	for i := range 256 {
		want := fmt.Sprintf(`\u%04x`, i)
		switch c := byte(i); {
		case 'a' <= c && c <= 'z', 'A' <= c && c <= 'Z', '0' <= c && c <= '9', c == 32, c == '_', c == '.', c == ',':
			want = string(rune(i))
		case c == 0, c >= 128:
			want = `\ufffd`
		}
		s := string([]byte{byte(i)})
		if got := Escape(s); got != want {
			t.Errorf("P9.1: Escape(%q) is %s, not %s", s, got, want)
		}
		if got := Escape("a" + s + "b"); got != "a"+want+"b" {
			t.Errorf("P9.1: Escape(%q) is %s, not a%sb", "a"+s+"b", got, want)
		}
	}
}

func TestEscapeOfEveryCharacter(t *testing.T) { // P9.1
	for c := rune(128); c <= utf8.MaxRune; c++ {
		s := string(c) // U+FFFD of a number that is no character's
		first, _ := utf8.DecodeRuneInString(s)
		want := fmt.Sprintf(`\u%04x`, first)
		if first > 0xffff {
			high, low := utf16.EncodeRune(first)
			want = fmt.Sprintf(`\u%04x\u%04x`, high, low)
		}
		if got := Escape(s); got != want {
			t.Fatalf("P9.1: Escape(%q) is %s, not %s", s, got, want)
		}
		if got, at, err := Decode(want); got != s || at != len(want) || err != api.OK {
			t.Fatalf("P9.1: Decode(%s) is %q, %d, %d", want, got, at, err)
		}
	}
}

func TestDecode(t *testing.T) { // P9.1
	for s, want := range decodings() {
		for _, around := range []struct{ ahead, behind string }{{"", ""}, {"a", ""}, {"", "z"}, {"é", "é"}, {`\\`, `\\`}, {`\n`, `\'`}, {"\xff", "\xff"}, {`\u0041`, `\x41`}, {`\x41`, `\u0041`}} {
			ahead, _, _ := decoded(around.ahead)
			behind, _, _ := decoded(around.behind)
			whole := around.ahead + s + around.behind
			if got, at, err := Decode(whole); got != ahead+want+behind || at != len(whole) || err != api.OK {
				t.Errorf("P9.1: Decode(%q) is %q, %d, %d, not %q", whole, got, at, err, ahead+want+behind)
			}
		}
	}
}

func TestDecodeRefuses(t *testing.T) { // P9.1, P4
	for s, place := range refusals() {
		for _, ahead := range []string{"", "a", "é", "\xff", `\\`, `\n`, `\'`, `\u0041`, `\x41`, `\ud83d`, `\ude00`, `\ud83d\ude00`} {
			whole := ahead + s
			if got, at, err := Decode(whole); got != "" || at != len(ahead)+place || err != api.ErrSyntax {
				t.Errorf("P9.1: Decode(%q) is %q, %d, %d, not ErrSyntax at %d", whole, got, at, err, len(ahead)+place)
			}
		}
	}
}

func TestDecodeTellsTheFirstPlace(t *testing.T) { // P9.1, P4
	for s, place := range refusals() {
		for next := range refusals() {
			if got, at, err := Decode(s + "\n" + next); got != "" || at != place || err != api.ErrSyntax {
				t.Fatalf("P9.1: Decode(%q) is %q, %d, %d, not ErrSyntax at %d", s+"\n"+next, got, at, err, place)
			}
		}
	}
}

func TestDecodeOfEveryOctet(t *testing.T) { // P9.1
	for i := range 256 {
		s := string([]byte{byte(i)})
		for _, whole := range []string{s, "a" + s, s + "b", `\` + s, `\` + s + "b", `a\` + s, `\\` + s, `\\\` + s, s + s, `\` + s + s, `\x4` + s, `\x` + s + "4", `\x` + s + s, `\u004` + s, `\u00` + s + "1", `\u0` + s + "41", `\u` + s + "041", `\` + s + "0041", `\` + s + "41", `\ud83d` + s, `\ud83d\` + s + "de00", `\ud83d` + s + "ude00", `\ud83d\u` + s + "e00", `\ud83d\ud` + s + "00", `\ud` + s + `3d\ude00`, s + `ud83d\ude00`} {
			want, wantAt, wantErr := decoded(whole)
			if got, at, err := Decode(whole); got != want || at != wantAt || err != wantErr {
				t.Errorf("P9.1: Decode(%q) is %q, %d, %d, not %q, %d, %d", whole, got, at, err, want, wantAt, wantErr)
			}
		}
	}
}

func TestDecodeOfEveryNumber(t *testing.T) { // P9.1
	for n := range 0x10000 {
		want := string(utf16.Decode([]uint16{uint16(n)}))
		for _, s := range []string{fmt.Sprintf(`\u%04x`, n), fmt.Sprintf(`\u%04X`, n)} {
			if got, at, err := Decode(s); got != want || at != len(s) || err != api.OK {
				t.Fatalf("P9.1: Decode(%s) is %q, %d, %d, not %q", s, got, at, err, want)
			}
		}
		for _, half := range []int{0xd7ff, 0xd800, 0xdbff, 0xdc00, 0xdfff, 0xe000} {
			for _, two := range [][]uint16{{uint16(half), uint16(n)}, {uint16(n), uint16(half)}} {
				s, want := fmt.Sprintf(`\u%04x\u%04x`, two[0], two[1]), string(utf16.Decode(two))
				if got, at, err := Decode(s); got != want || at != len(s) || err != api.OK {
					t.Fatalf("P9.1: Decode(%s) is %q, %d, %d, not %q", s, got, at, err, want)
				}
			}
		}
	}
	for n := range 0x100 {
		for _, s := range []string{fmt.Sprintf(`\x%02x`, n), fmt.Sprintf(`\x%02X`, n)} {
			if got, at, err := Decode(s); got != string(rune(n)) || at != len(s) || err != api.OK {
				t.Errorf("P9.1: Decode(%s) is %q, %d, %d, not %q", s, got, at, err, string(rune(n)))
			}
		}
	}
}

func TestSafe(t *testing.T) { // P9.2
	bad := []string{"<", ">", "&", "'", `"`, "/", "!", "-", "`", "\n", "\r", "\x00"}
	for _, s := range bad {
		for _, around := range []struct{ ahead, behind string }{{"", ""}, {"a", ""}, {"", "z"}, {"a", "z"}, {`\`, ""}, {"\xff", "\xff"}, {"é", "é"}, {"\xc3", ""}, {"", "\x80"}, {strings.Repeat("a", 1000), strings.Repeat("z", 1000)}, {s, s}} {
			if Safe(around.ahead + s + around.behind) {
				t.Errorf("P9.2: %q is safe", around.ahead+s+around.behind)
			}
		}
		for _, other := range bad {
			if Safe(s + other) {
				t.Errorf("P9.2: %q is safe", s+other)
			}
		}
	}
	for _, s := range []string{"", "a", "az AZ 09 _.,", `\`, `\u0027`, `\n`, "\t", "\v", "\f", "\b", "\x01", "\x7f", "#$%()*+:;=?@[]^{|}~", "é€😀", "\xff", "\xc3", "\xe2\x82", broken, "\u2028\u2029", "\u0085", "\u2010", "\u2011", "\u2212", "\u2215", "\u2018\u2019\u201c\u201d", "\uff02\uff07\uff0f\uff1c\uff1e\uff06", "\u013c\u013e\u0126\u0127\u0122\u012f\u0121\u012d\u0160\u010a\u010d\u0100", "\xc0\x80", "\xc0\xbc", "\xe0\x80\xbc", strings.Repeat("a", 1000)} {
		if !Safe(s) {
			t.Errorf("P9.2: %q is not safe", s)
		}
	}
}

func TestSafeOfEveryOctet(t *testing.T) { // P9.2
	for i := range 256 {
		s := string([]byte{byte(i)})
		want := true
		switch s {
		case "<", ">", "&", "'", `"`, "/", "!", "-", "`", "\x0a", "\x0d", "\x00":
			want = false
		}
		for _, whole := range []string{s, "a" + s, s + "b", "a" + s + "b", `\` + s, "é" + s + "é", "\xff" + s, "\xe2" + s} {
			if Safe(whole) != want {
				t.Errorf("P9.2: Safe(%q) is %t", whole, !want)
			}
		}
	}
	for c := rune(128); c <= utf8.MaxRune; c++ {
		if !Safe(string(c)) {
			t.Fatalf("P9.2: %q is not safe", string(c))
		}
	}
}

func TestEscapeIsReadBySomeoneElse(t *testing.T) { // P9.1
	for _, s := range oddTexts() {
		var got string
		if err := json.Unmarshal([]byte(`"`+Escape(s)+`"`), &got); err != nil || got != utf.Repair(s) {
			t.Errorf("P9.1: Escape(%.40q) is read as %.40q, %v", s, got, err)
		}
	}
}

func TestSmallTexts(t *testing.T) { // P9.1, P9.2
	for s := range smallTexts(smallPieces(), 5) {
		agree(t, s)
	}
}

func TestOddTexts(t *testing.T) { // P9.1, P9.2
	texts := oddTexts()
	for i, s := range texts {
		agree(t, s)
		agree(t, s+s)
		agree(t, s+texts[len(texts)-1-i])
		agree(t, `\ud83d`+s+`\ude00`)
	}
}

// agree holds all calls against what Go's library tells of s.
func agree(t *testing.T, s string) {
	want, wantAt, wantErr := decoded(s)
	if got, at, err := Decode(s); got != want || at != wantAt || err != wantErr {
		t.Fatalf("P9.1: Decode(%.60q) is %.60q, %d, %d, not %.60q, %d, %d", s, got, at, err, want, wantAt, wantErr)
	}
	if got, want := Escape(s), escaped(s); got != want {
		t.Fatalf("P9.1: Escape(%.60q) is %.60q, not %.60q", s, got, want)
	}
	if Safe(s) == unsafeSign.MatchString(s) {
		t.Fatalf("P9.2: Safe(%.60q) is %t", s, Safe(s))
	}
}
