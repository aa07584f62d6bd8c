package marks

import (
	"slices"
	"strings"
	"testing"

	"muslin/api"
	"muslin/utf"
)

func TestPrint(t *testing.T) { // P13.2
	for _, c := range []struct {
		s    api.State
		want string
	}{
		{Start(), "0|||0|||0|"},
		{api.State{Kind: 9, Elem: "a", Attr: "href", Delim: '"', Pend: "p", Ref: "&", Part: 12, Word: "http"}, "9|a|href|34|p|%26|12|http"},
		{api.State{Kind: 9, Elem: "a", Attr: "href", Delim: '\''}, "9|a|href|39|||0|"},
		{api.State{Kind: 4, Elem: "/title"}, "4|%2ftitle||0|||0|"},
		{api.State{Kind: 16, Pend: "--"}, "16|||0|--||0|"},
		{api.State{Kind: 17, Elem: "title", Pend: "</TI", Ref: "&#x4"}, "17|title||0|%3c%2fTI|%26%23x4|0|"},
		{api.State{Kind: 18, Word: "?"}, "18|||0|||0|%3f"},
		{api.State{Kind: 5, Elem: "a|b%41 c|"}, "5|a%7cb%2541%20c%7c||0|||0|"},
		{api.State{Kind: 6, Attr: "-._~AZaz09"}, "6||-._~AZaz09|0|||0|"},
		{api.State{Ref: "\x00\xffé\t"}, "0|||0||%ef%bf%bd%ef%bf%bd%c3%a9%09|0|"},
		{api.State{Ref: "\xc3"}, "0|||0||%ef%bf%bd|0|"},
		{api.State{Kind: -1, Part: -12, Delim: 255}, "-1|||255|||-12|"},
		{api.State{Kind: 1<<63 - 1, Part: -1 << 63, Delim: 1}, "9223372036854775807|||1|||-9223372036854775808|"},
		{api.State{Elem: "1", Attr: "2", Delim: 3, Pend: "4", Ref: "5", Part: 6, Word: "7"}, "0|1|2|3|4|5|6|7"},
	} {
		if got := Print(c.s); got != c.want || got != printed(c.s) {
			t.Errorf("P13.2: Print(%+v) is %q, not %q", c.s, got, c.want)
		}
	}
	for _, s := range oddStates() {
		if got, want := Print(s), printed(s); got != want {
			t.Errorf("P13.2: Print(%+v) is %q, not %q", s, got, want)
		}
	}
}

func TestPrintOfEveryOctet(t *testing.T) { // P13.2
	for c := range 256 {
		one := string([]byte{byte(c)})
		s := api.State{Kind: c, Elem: one, Attr: "a" + one, Delim: byte(c), Pend: one + "a", Ref: one + one, Part: -c, Word: "é" + one + "é"}
		if got, want := Print(s), printed(s); got != want {
			t.Errorf("P13.2: Print(%+v) is %q, not %q", s, got, want)
		}
	}
}

// parses tells of Parse(text) whether it is what the expressions have it be.
func parses(t *testing.T, text string) bool {
	t.Helper()
	want, wantErr := parsed(text)
	got, err := Parse(text)
	if got != want || err != wantErr {
		t.Errorf("P13.2: Parse(%.200q) is %+v, %d, not %+v, %d", text, got, err, want, wantErr)
	}
	if err == api.OK && Print(got) != text {
		t.Errorf("P13.2: %.200q and %.200q are one state", text, Print(got))
	}
	return err == api.OK
}

func TestParse(t *testing.T) { // P13.2, P13.3
	for _, c := range []struct {
		text string
		want api.State
	}{
		{"0|||0|||0|", Start()},
		{"9|a|href|34||%26am|1|http", api.State{Kind: 9, Elem: "a", Attr: "href", Delim: '"', Ref: "&am", Part: 1, Word: "http"}},
		{"10|%2fa|href|0||%26|0|", api.State{Kind: 10, Elem: "/a", Attr: "href", Ref: "&"}},
		{"19|script||0|%3c%21-||15|", api.State{Kind: 19, Elem: "script", Pend: "<!-", Part: 15}},
		{"5|a%7cb%2541||0|||0|", api.State{Kind: 5, Elem: "a|b%41"}},
		{"5|%ef%bf%bd%c3%a9||0|||0|", api.State{Kind: 5, Elem: "\ufffdé"}},
		{"5|%01%09%20%7f||0|||0|", api.State{Kind: 5, Elem: "\x01\t \x7f"}},
	} {
		if got, err := Parse(c.text); got != c.want || err != api.OK {
			t.Errorf("P13.2: Parse(%q) is %+v, %d", c.text, got, err)
		}
		parses(t, c.text)
	}
}

// refused tells of Parse(text) whether it is want.
func refused(t *testing.T, want api.Errno, texts ...string) {
	t.Helper()
	for _, text := range texts {
		if got, err := Parse(text); got != (api.State{}) || err != want {
			t.Errorf("P13.2: Parse(%.200q) is %+v, %d, not %d", text, got, err, want)
		}
		parses(t, text)
	}
}

func TestParseOfOtherForms(t *testing.T) { // P13.2, P4
	refused(t, api.ErrSyntax, "", "|", "0", "a", "0|||0|||0", "|||||||", "||||||||", "0|||0|||0||", "0|||0|||0|||||", "|0|||0|||0|", "0||0|||0|", "0||||0|||0|", " 0|||0|||0|", "0|||0|||0| ", "0|||0|||0|\n", "0|||0|||0|\x00", "0|||0|||0|.|", strings.Repeat("|", 1000), "0,,,0,,,0,", "0 ||| 0|||0|")
	refused(t, api.ErrSyntax, "0|||0|||0|0|||0|||0|", "0|||0|||0||0|||0|||0|", "0|0|0|||0|", "0|||0|||0|a|b")
}

func TestParseOfNumbers(t *testing.T) { // P13.2, P4
	for _, n := range []string{"", "-", "+0", "+1", "-0", "00", "01", "-01", "0 ", " 0", "0x0", "a", "0.", "1e0", "1_0", "٣", "%30", "0%", "\x00", "9223372036854775808", "-9223372036854775809", "99999999999999999999", "18446744073709551616", strings.Repeat("1", 1000), "-" + strings.Repeat("9", 1000), "--1", "1-"} {
		refused(t, api.ErrSyntax, joined(n, "", "", "0", "", "", "0", ""), joined("0", "", "", n, "", "", "0", ""), joined("0", "", "", "0", "", "", n, ""))
		refused(t, api.ErrSyntax, joined("9", "a", "href", n, "", "", "0", ""), joined("19", "", "", "0", "", "", n, ""), joined("99", "", "", n, "", "", "0", ""))
	}
	for _, n := range []string{"256", "290", "295", "-1", "-222", "4294967296", "4294967330", "9223372036854775807", "-9223372036854775808"} { // no octet
		refused(t, api.ErrSyntax, joined("9", "a", "href", n, "", "", "0", ""), joined("0", "", "", n, "", "", "0", ""), joined("99", "", "", n, "", "", "99", ""))
	}
	for _, n := range []string{"-1", "20", "99", "256", "9223372036854775807", "-9223372036854775808"} {
		refused(t, api.ErrRange, joined(n, "", "", "0", "", "", "0", ""), joined(n, "a", "b", "255", "c", "d", "-9", "e"))
		refused(t, api.ErrState, joined("19", "", "", "0", "", "", n, ""), joined("0", "", "", "0", "", "", n, ""))
	}
	for n := -300; n < 600; n++ {
		s := api.State{Kind: n, Part: n, Delim: byte(n)}
		for _, text := range []string{printed(api.State{Kind: n}), printed(api.State{Kind: 18, Part: n}), printed(api.State{Kind: 9, Delim: byte(n)}), printed(s)} {
			parses(t, text)
		}
	}
}

func TestParseOfTextsEncodedOtherwise(t *testing.T) { // P13.2, P4
	for _, text := range []string{"%2F", "%3C", "%3c%2F", "%C3%A9", "%c3%A9", "%61", "%41", "%7a", "%30", "%2d", "%2e", "%5f", "%7e", "%7E", "a%62c", "/", "&", "<", "a b", " ", "+", "é", "\x00", "\xff", "\t", "\x7f", "!", "*", "'", "(", "=", "?", "\"", "%", "%%", "%4", "%z1", "%1z", "%g0", "%c", "a%", "a%2", "%2%2f", "% 2f", "%-1", "%0x", "%00", "a%00", "%ff", "%80", "%c3", "%c3a", "%c3%28", "%a9%c3", "%e2%82", "%ed%a0%80", "%c0%af", "%f4%90%80%80", "%f8%88%80%80%80", "%ef%bf", "%u0041", "%25%"} {
		for _, place := range []int{1, 2, 4, 5, 7} {
			parts := []string{"9", "a", "href", "34", "", "", "1", ""}
			parts[place] = text
			refused(t, api.ErrSyntax, joined(parts...))
			parts[0] = "-1" // the state may not be, either
			refused(t, api.ErrSyntax, joined(parts...))
			parts[0], parts[place] = "9", "a"+text
			refused(t, api.ErrSyntax, joined(parts...))
		}
	}
	for n := range 256 {
		for _, form := range []string{"%", "%%", "a%"} {
			for _, digits := range []string{"0123456789abcdef", "0123456789ABCDEF"} {
				octet := form + string([]byte{digits[n>>4], digits[n&15]})
				parses(t, joined("5", octet, "", "0", "", "", "0", ""))
				parses(t, joined("6", "", octet+"a", "0", "", "", "0", ""))
				parses(t, joined("0", "", "", "0", "", octet+octet, "0", ""))
			}
		}
		parses(t, joined("5", string([]byte{byte(n)}), "", "0", "", "", "0", ""))
	}
}

func TestParseOfStatesThatMayNotBe(t *testing.T) { // P13.2
	for _, s := range oddStates() {
		want := Check(s)
		got, err := Parse(printed(s))
		if repaired := isRepaired(s); repaired && (err != want || err != api.OK && got != (api.State{})) {
			t.Errorf("P13.2: Parse of %+v's text is %+v, %d, not %d", s, got, err, want)
		}
		parses(t, printed(s))
	}
	refused(t, api.ErrState, "0|a||0|||0|", "9|||0|||0|", "9|||33|||0|", "1|||34|||0|", "10|a|class|0|||1|", "10|%2fa|href|0|||1|", "18|||0||%26|0|", "3|"+strings.Repeat("a", 34)+"||0|||0|", "0|||0||"+strings.Repeat("%26", 17)+"|0|", "19|||0|||16|", "19|||0|||-1|")
	refused(t, api.ErrRange, "20|||0|||0|", "-1|||0|||0|", "20|a|b|1|c|d|99|e")
}

func isRepaired(s api.State) bool {
	return !slices.ContainsFunc(textsOf(s), func(text string) bool { return utf.Repair(text) != text })
}

func TestParseOfNearTexts(t *testing.T) { // P13.2, P13.3
	told := map[api.State]string{}
	for _, s := range goodStates() {
		for _, text := range nearTo(printed(s)) {
			if !parses(t, text) {
				continue
			}
			got, _ := Parse(text)
			if was, ok := told[got]; ok && was != text {
				t.Errorf("P13.2: %q and %q are one state", was, text)
			}
			told[got] = text
		}
	}
	if len(told) < 1000 {
		t.Errorf("P13.2: just %d states are near", len(told))
	}
}

func TestParseOfSmallTexts(t *testing.T) { // P13.2
	for s := range smallTexts([]string{"|", "||", "0", "1", "9", "-", "a", "%41", "%2f", "34", "href"}, 5) {
		parses(t, s)
		parses(t, "0||"+s)
		parses(t, s+"|0|")
	}
	for s := range smallTexts([]string{"a", "%", "2", "f", "F", "%c3", "%a9", "%00", "/", "~", "|"}, 4) {
		parses(t, "4|"+s+"||0|||0|")
		parses(t, "17|title||0||"+s+"|0|")
		parses(t, "10|a|src|0|||1|"+s)
	}
}

func TestStatesComeBack(t *testing.T) { // P13.3
	comesBack := func(s api.State) {
		if got, err := Parse(Print(s)); got != s || err != api.OK {
			t.Errorf("P13.3: %+v comes back as %+v, %d", s, got, err)
		}
	}
	for _, s := range goodStates() {
		comesBack(s)
	}
	for text := range smallTexts([]string{"a", "/", "|", "%", "%41", " ", "é", "\U0001f600", "\ufffd", "\x7f", "\x01", "-", "<", "&"}, 3) {
		for _, s := range []api.State{{Ref: text}, {Kind: 3, Elem: text}, {Kind: 7, Elem: text, Attr: text}, {Kind: 16, Pend: text}, {Kind: 17, Elem: text, Pend: text, Ref: text}, {Kind: 18, Part: 3, Word: text}, {Kind: 10, Attr: "href", Word: text}} {
			if Check(s) == api.OK {
				comesBack(s)
			}
		}
	}
	for c := 1; c < 0x110000; c++ {
		if s := (api.State{Kind: 18, Word: string(rune(c))}); c < 0x3000 || c%251 == 0 || c > 0x10fff0 {
			comesBack(s)
		}
	}
}

func TestStatesComeBackAsRepaired(t *testing.T) { // P13.2, P13.3
	for _, s := range oddStates() {
		repaired := api.State{Kind: s.Kind, Elem: utf.Repair(s.Elem), Attr: utf.Repair(s.Attr), Delim: s.Delim, Pend: utf.Repair(s.Pend), Ref: utf.Repair(s.Ref), Part: s.Part, Word: utf.Repair(s.Word)}
		want := Check(repaired)
		if want != api.OK {
			repaired = api.State{}
		}
		if got, err := Parse(Print(s)); got != repaired || err != want {
			t.Errorf("P13.3: %+v comes back as %+v, %d", s, got, err)
		}
	}
}
