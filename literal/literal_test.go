package literal

import (
	"encoding/json"
	"fmt"
	"math"
	"strings"
	"testing"
	"unicode/utf16"

	"muslin/api"
	"muslin/utf"
)

// quoted tells a text as Quote should, by the library's own UTF-16.
func quoted(s string) string {
	var b strings.Builder
	b.WriteByte('"')
	for _, unit := range utf16.Encode([]rune(strings.ReplaceAll(string([]rune(s)), "\x00", "\ufffd"))) {
		if unit < 128 && strings.IndexByte("abcdefghijklmnopqrstuvwxyzABCDEFGHIJKLMNOPQRSTUVWXYZ0123456789 _.,", byte(unit)) >= 0 {
			b.WriteByte(byte(unit))
		} else {
			fmt.Fprintf(&b, `\u%04x`, unit)
		}
	}
	return b.String() + `"`
}

func TestQuote(t *testing.T) { // P5.1
	for _, c := range []struct{ s, want string }{
		{"", `""`},
		{"<", `"\u003c"`},
		{"azAZ09 _.,", `"azAZ09 _.,"`},
		{"a b", `"a b"`},
		{"a\tb\nc\rd", `"a\u0009b\u000ac\u000dd"`},
		{"\"'\\/`", `"\u0022\u0027\u005c\u002f\u0060"`},
		{"-+!?;:&>@[{}]", `"\u002d\u002b\u0021\u003f\u003b\u003a\u0026\u003e\u0040\u005b\u007b\u007d\u005d"`},
		{"\x7f\u0080\u00a0é", `"\u007f\u0080\u00a0\u00e9"`},
		{"\u07ff\u0800", `"\u07ff\u0800"`},
		{"\u2028\u2029", `"\u2028\u2029"`},
		{"\ud7ff\ue000", `"\ud7ff\ue000"`},
		{"\ufffd\ufffe\uffff", `"\ufffd\ufffe\uffff"`},
		{"\U00010000", `"\ud800\udc00"`},
		{"\U000103ff\U00010400", `"\ud800\udfff\ud801\udc00"`},
		{"😀a😀", `"\ud83d\ude00a\ud83d\ude00"`},
		{"\U0010ffff", `"\udbff\udfff"`},
		{"\x00", `"\ufffd"`},
		{"a\x00b", `"a\ufffdb"`},
		{"\xff", `"\ufffd"`},
		{"\x80\xbf", `"\ufffd\ufffd"`},
		{"\xc3", `"\ufffd"`},
		{"\xc3a", `"\ufffda"`},
		{"\xed\xa0\x80", `"\ufffd\ufffd\ufffd"`},
		{"\xf0\x9f\x98", `"\ufffd\ufffd\ufffd"`},
		{"\xf4\x90\x80\x80", `"\ufffd\ufffd\ufffd\ufffd"`},
		{"\xc0\x80", `"\ufffd\ufffd"`},
		{`\u0041`, `"\u005cu0041"`},
		{"\u017f\u212a\uff41\u0663", `"\u017f\u212a\uff41\u0663"`},
	} {
		if got := Quote(c.s); got != c.want {
			t.Errorf("P5.1: Quote(%q) is %s, not %s", c.s, got, c.want)
		}
	}
}

func TestQuoteOfEveryCharacter(t *testing.T) { // P5.1
	for c := range 0x110000 {
		s, err := utf.Encode(c)
		if err != api.OK {
			continue
		}
		if got, want := Quote(s), quoted(s); got != want {
			t.Fatalf("P5.1: Quote of the character %d is %s, not %s", c, got, want)
		}
	}
}

func TestQuoteOfOctets(t *testing.T) { // P5.1
	for a := range 256 {
		for b := range 256 {
			s := string([]byte{byte(a), byte(b)})
			if got, want := Quote(s), quoted(s); got != want {
				t.Fatalf("P5.1: Quote(%q) is %s, not %s", s, got, want)
			}
		}
	}
	for _, s := range oddTexts() {
		if got, want := Quote(s), quoted(s); got != want {
			t.Errorf("P5.1: Quote(%.40q) is %.80s, not %.80s", s, got, want)
		}
	}
}

func TestLiteral(t *testing.T) { // P5.1
	for _, c := range []struct {
		v    api.Value
		want string
	}{
		{kindOf(0), `null`},
		{kindOf(1), `false`},
		{kindOf(2), `true`},
		{intOf(0), `0`},
		{intOf(7), `7`},
		{intOf(-1), ` -1`},
		{intOf(-120), ` -120`},
		{intOf(math.MaxInt), `9223372036854775807`},
		{intOf(math.MinInt), ` -9223372036854775808`},
		{textOf(""), `""`},
		{textOf("a <b>"), `"a \u003cb\u003e"`},
		{textOf("\x00\xff"), `"\ufffd\ufffd"`},
		{says(7, "<b>"), `"\u003cb\u003e"`},
		{says(8, "a=1"), `"a\u003d1"`},
		{says(9, "/"), `"\u002f"`},
		{says(10, "f()"), `"f\u0028\u0029"`},
		{says(11, ""), `""`},
		{listOf(), `[]`},
		{api.Value{Kind: 5, List: []api.Value{}}, `[]`},
		{listOf(intOf(1)), `[1]`},
		{listOf(intOf(1), intOf(-2), intOf(3)), `[1, -2,3]`},
		{listOf(kindOf(0), kindOf(1), kindOf(2), textOf(""), says(10, "x;")), `[null,false,true,"","x\u003b"]`},
		{listOf(listOf(), listOf(listOf(intOf(-1)), intOf(2))), `[[],[[ -1],2]]`},
		{recordOf(""), `{}`},
		{api.Value{Kind: 6, List: []api.Value{}, Keys: []string{}}, `{}`},
		{recordOf("a", intOf(1)), `{"a":1}`},
		{recordOf("a b", intOf(-1), textOf("x")), `{"a": -1,"b":"x"}`},
		{recordOf("a b c", textOf(""), recordOf(""), listOf()), `{"a":"","b":{},"c":[]}`},
		{recordOf("a b", listOf(intOf(1), intOf(2)), recordOf("c", kindOf(0))), `{"a":[1,2],"b":{"c":null}}`},
		{listOf(recordOf("a", intOf(1)), recordOf("a", listOf(recordOf("b", kindOf(2))))), `[{"a":1},{"a":[{"b":true}]}]`},
		{recordOf("b a b", intOf(1), intOf(2), intOf(3)), `{"b":1,"a":2,"b":3}`},
		{keyed([]string{"", "x-y", "<\x00", "😀"}, intOf(1), intOf(2), intOf(3), intOf(4)), `{"":1,"x\u002dy":2,"\u003c\ufffd":3,"\ud83d\ude00":4}`},
		{recordOf("", intOf(1)), `{1}`},
		{recordOf("", intOf(-1), textOf("a")), `{ -1,"a"}`},
		{recordOf("a", intOf(1), intOf(2), listOf()), `{"a":1,2,[]}`},
		{recordOf("a b c", intOf(1)), `{"a":1}`},
		{recordOf("a b"), `{}`},
	} {
		if got := Literal(c.v); got != c.want {
			t.Errorf("P5.1: Literal of %+v is %s, not %s", c.v, got, c.want)
		}
	}
}

func TestLiteralIsOfWhatTheKindUses(t *testing.T) { // P5.1
	for kind, want := range []string{`null`, `false`, `true`, ` -7`, `"t"`, `[null]`, `{"k":null}`} {
		v := api.Value{Kind: kind, Int: -7, Text: "t", List: []api.Value{{}}, Keys: []string{"k"}}
		if got := Literal(v); got != want {
			t.Errorf("P5.1: Literal of %+v is %s, not %s", v, got, want)
		}
	}
	for _, kind := range append(noKinds(), 7, 8, 9, 10, 11) {
		v := api.Value{Kind: kind, Int: -7, Text: "t<", List: []api.Value{{}}, Keys: []string{"k"}}
		if got, want := Literal(listOf(v, v)), `["t\u003c","t\u003c"]`; got != want {
			t.Errorf("P5.1: Literal of two of Kind %d is %s, not %s", kind, got, want)
		}
		if got := Literal(kindOf(kind)); got != `""` {
			t.Errorf("P5.1: Literal of an empty Kind %d is %s", kind, got)
		}
	}
}

func TestLiteralOfTextsIsQuote(t *testing.T) { // P5.1
	for _, s := range oddTexts() {
		for _, kind := range append(noKinds(), 4, 7, 8, 9, 10, 11) {
			if got, want := Literal(says(kind, s)), Quote(s); got != want {
				t.Errorf("P5.1: Literal of Kind %d of %.40q is %.80s, not %.80s", kind, s, got, want)
			}
		}
		if got, want := Literal(keyed([]string{s, s}, kindOf(2))), "{"+Quote(s)+":true}"; got != want {
			t.Errorf("P5.1: Literal of a record with the key %.40q is %.80s", s, got)
		}
	}
}

// ofScript answers what a script would make of v, as the library's reader of JSON makes it.
func ofScript(v api.Value) any {
	switch v.Kind {
	case 0:
		return nil
	case 1, 2:
		return v.Kind == 2
	case 3:
		return json.Number(fmt.Sprint(v.Int))
	case 5:
		out := []any{}
		for _, x := range v.List {
			out = append(out, ofScript(x))
		}
		return out
	case 6:
		out := map[string]any{}
		for i, x := range v.List {
			out[utf.Repair(v.Keys[i])] = ofScript(x)
		}
		return out
	}
	return utf.Repair(v.Text)
}

func TestLiteralIsWhatAScriptReads(t *testing.T) { // P5.1, G2
	for _, v := range oddValues() {
		if !eachHasKey(v) {
			continue
		}
		reader := json.NewDecoder(strings.NewReader(Literal(v)))
		reader.UseNumber()
		var got any
		if err := reader.Decode(&got); err != nil || reader.More() {
			t.Errorf("P5.1: %.80s is no literal: %v", Literal(v), err)
		} else if want := ofScript(v); fmt.Sprintf("%#v", got) != fmt.Sprintf("%#v", want) {
			t.Errorf("P5.1: %.80s says %.80v, not %.80v", Literal(v), got, want)
		}
	}
}

// eachHasKey tells whether each value of the records in v has a key.
func eachHasKey(v api.Value) bool {
	if v.Kind != 5 && v.Kind != 6 {
		return true
	}
	if v.Kind == 6 && len(v.Keys) < len(v.List) {
		return false
	}
	for _, x := range v.List {
		if !eachHasKey(x) {
			return false
		}
	}
	return true
}

func TestSafe(t *testing.T) { // P5.2
	for c := range 256 {
		one := string([]byte{byte(c)})
		want := strings.IndexByte("<>&'`/", byte(c)) < 0
		for _, s := range []string{one, one + "ab", "a" + one + "b", "ab" + one, one + one, "é" + one + "é", strings.Repeat("x", 100) + one, one + strings.Repeat("x", 100), strings.Repeat("x", 50) + one + strings.Repeat("\xff", 50)} {
			if got := Safe(s); got != want {
				t.Errorf("P5.2: Safe(%q) is %v", s, got)
			}
		}
	}
	for s, want := range map[string]bool{
		"": true, "a": true, `"\u003c"`: true, "\"\\": true, "()[]{}=;-!%*+": true, "\x00\n\r": true, "\u2028": true, "\uff1c": true, "\u2044": true, "\u00b4": true,
		"</": false, "<!--": false, "]]>": false, "//": false, "a'b`c": false, "&amp;": false,
	} {
		if got := Safe(s); got != want {
			t.Errorf("P5.2: Safe(%q) is %v", s, got)
		}
	}
}

func TestLiteralsAreSafe(t *testing.T) { // P5.3
	for _, v := range oddValues() {
		if s := Literal(v); !Safe(s) || strings.ContainsAny(s, "<>&'`/") {
			t.Errorf("P5.3: %.80s is not safe", s)
		}
	}
	for _, s := range oddTexts() {
		for _, told := range []string{Quote(s), Literal(textOf(s)), Literal(says(10, s)), Literal(says(-3, s)), Literal(keyed([]string{s}, textOf(s)))} {
			if !Safe(told) || strings.ContainsAny(told, "<>&'`/") {
				t.Errorf("P5.3: %.80s is not safe", told)
			}
		}
	}
}
