package scan

import (
	"html/template"
	"strings"
	"testing"

	"muslin/api"
	"muslin/marks"
)

// holds holds Hole of s against the state behind the action, and its kind.
func holds(t *testing.T, s api.State, want api.State, kind int) {
	t.Helper()
	if got, gotKind, err := Hole(s); got != want || gotKind != kind || err != api.OK {
		t.Errorf("P17.3: Hole(%+v) is %+v, %d, %d, not %+v, %d", s, got, gotKind, err, want, kind)
	}
}

// holdsNone tells whether no action may stand in s.
func holdsNone(t *testing.T, s api.State) {
	t.Helper()
	if got, kind, err := Hole(s); got != (api.State{}) || kind != 0 || err != api.ErrContext {
		t.Errorf("P17.3: Hole(%+v) is %+v, %d, %d", s, got, kind, err)
	}
}

func TestHolesOfTexts(t *testing.T) { // P17.3
	for text, want := range map[string]struct {
		kind   int
		behind string
	}{
		"": {1, "0|||0|||0|"}, "<p>a &lt; ": {1, "0|||0|||0|"}, "a &x": {1, "0|||0|||0|"}, "<!----></p>": {1, "0|||0|||0|"}, "<script></script>": {1, "0|||0|||0|"}, "< ": {1, "0|||0|||0|"},
		"<title>": {2, "17|title||0|||0|"}, "<textarea>a<b": {2, "17|textarea||0|||0|"}, "<title></ti ": {2, "17|title||0|||0|"},
		"<p class=\"": {3, "9|p|class|34|||0|"}, "<p id='a": {3, "9|p|id|39|||0|"}, "<a data='": {3, "9|a|data|39|||0|"}, "<iframe class='": {3, "9|iframe|class|39|||0|"}, "<p title='&lt;": {3, "9|p|title|39|||0|"},
		"<a href=\"": {4, "9|a|href|34|||4|"}, "<img src='": {4, "9|img|src|39|||4|"}, "<object data='": {4, "9|object|data|39|||4|"}, "<iframe src='": {4, "9|iframe|src|39|||4|"},
		"<a href='/": {5, "9|a|href|39|||2|"}, "<a href='http:": {5, "9|a|href|39|||2|"}, "<a href='mailto&#58;": {5, "9|a|href|39|||2|"}, "<a href='x/": {5, "9|a|href|39|||2|"}, "<a href='HTTPS://x.y": {5, "9|a|href|39|||2|"},
		"<a href='?": {6, "9|a|href|39|||3|"}, "<a href='x#": {6, "9|a|href|39|||3|"}, "<a href='/?a=": {6, "9|a|href|39|||3|"}, "<a href='javascript?": {6, "9|a|href|39|||3|"},
		"<script>": {7, "19|script||0|||1|"}, "<script>x": {7, "19|script||0|||1|"}, "<script>return": {7, "19|script||0|||1|"}, "<script>f(": {7, "19|script||0|||1|"}, "<script>// a\n": {7, "19|script||0|||1|"},
		"<script>\"": {8, "19|script||0|||2|"}, "<script>'": {8, "19|script||0|||3|"}, "<script>'a\\'": {8, "19|script||0|||3|"}, "<script>\"<\\/": {8, "19|script||0|||2|"},
		"<p onclick='": {9, "9|p|onclick|39|||1|"}, "<p on=\"f(": {9, "9|p|on|34|||1|"}, "<p on='return ": {9, "9|p|on|39|||1|"}, "<iframe onload='": {9, "9|iframe|onload|39|||1|"},
		"<p on='\"": {10, "9|p|on|39|||2|"}, "<p on=\"'": {10, "9|p|on|34|||3|"}, "<p on='&#39;": {10, "9|p|on|39|||3|"},
		"<style>": {11, "18|style||0|||0|%3f"}, "<style>a{b:": {11, "18|style||0|||0|%3f"}, "<style>url": {11, "18|style||0|||0|%3f"}, "<style>\"a\" ": {11, "18|style||0|||0|%3f"},
		"<p style='": {12, "9|p|style|39|||0|%3f"}, "<p style=\"a:": {12, "9|p|style|34|||0|%3f"}, "<p style='ur": {12, "9|p|style|39|||0|%3f"},
	} {
		holds(t, after(t, text), st(want.behind), want.kind)
	}
	for _, text := range []string{
		"<", "</", "<a", "</a", "<a ", "<a b", "<a b ", "<a href", "<a href=", "<a href= ", "<a href=x", "<a href=/", "<p on=x", "<p style=x", "<a b=c", "<a b=c/", "<a b='c'", "<a/", "<!", "<!-", "<?", "<!--", "<!--a--", "</ ", "</a b='", "</a href='", "</a onclick='", "</a style='", "</title ",
		"&", "a&am", "&#x4", "<title>&", "<title>&lt", "<title><", "<title></", "<title></title", "<p class='&", "<a href='&am", "<p on='&#3", "<p style='&#", "<style><", "<style></styl", "<script><", "<script><!", "<script><!-", "<script>\"</", "<script></script",
		"<p srcdoc='", "<img srcset='", "<meta http-equiv=\"", "<a ping='", "<svg xmlns='", "<svg xmlns:a='", "<iframe srcdoc='a",
		"<a href='h", "<a href='http", "<a href='javascript:", "<a href='x:", "<a href=':", "<a href=\"&eacute",
		"<script>//", "<script>/*", "<script>/* *", "<script>/", "<script>/a", "<script>/[", "<script>/\\", "<script>\"\\", "<script>'\\", "<script>a/", "<p on='//", "<p on='\"\\", "<p on='/", "<p on='a/", "<style>\"", "<style>'", "<style>/", "<style>/*", "<style>/**", "<style>url(", "<style>\"\\", "<p style='\"", "<p style='/", "<p style='url(", "<p style='/*",
	} {
		holdsNone(t, after(t, text))
	}
}

// escs are the kinds of actions in each part of an attribute of that kind's value, in order.
func escs(attribute int) []int {
	out := make([]int, 16)
	copy(out, [][]int{{3}, {4, 0, 5, 6}, {9, 9, 10, 10}, {12}, {}}[attribute])
	return out
}

func TestHolesOfEachPart(t *testing.T) { // P17.3
	for part := range 16 {
		for _, word := range []string{"", "url", "?", "return", long16} {
			for attribute, of := range map[int][2]string{1: {"a", "href"}, 2: {"p", "onclick"}, 3: {"p", "style"}} {
				for _, delim := range []byte("\"'") {
					s := api.State{Kind: 9, Elem: of[0], Attr: of[1], Delim: delim, Part: part, Word: word}
					asParts(t, s, escs(attribute)[part])
					unquoted := s
					unquoted.Kind, unquoted.Delim = 10, 0
					holdsNone(t, unquoted)
				}
			}
			script := make([]int, 16)
			copy(script, []int{7, 7, 8, 8})
			style := make([]int, 16)
			style[0] = 11
			asParts(t, api.State{Kind: 19, Elem: "script", Part: part, Word: word}, script[part])
			asParts(t, api.State{Kind: 18, Elem: "style", Part: part, Word: word}, style[part])
		}
	}
}

// asParts holds Hole of s, which has parts, against the kind of action that may stand there, 0 if none may.
func asParts(t *testing.T, s api.State, kind int) {
	t.Helper()
	want := s
	want.Word = ""
	switch kind {
	case 0:
		holdsNone(t, s)
		return
	case 4:
		want.Part = 4
	case 7, 9:
		want.Part = 1
	case 11, 12:
		want.Word = "?"
	}
	holds(t, s, want, kind)
}

func TestHolesOfEachKind(t *testing.T) { // P17.3
	for kind := range 20 {
		for _, s := range odd(kind) {
			if marks.Check(s) != api.OK {
				continue
			}
			end := strings.HasPrefix(s.Elem, "/")
			switch {
			case s.Pend != "" || s.Ref != "":
				holdsNone(t, s)
			case kind == 0:
				holds(t, s, s, 1)
			case kind == 17:
				holds(t, s, s, 2)
			case kind == 18, kind == 19, kind == 9 && !end && s.Attr != "":
				// these have parts, of which TestHolesOfEachPart asks
			default:
				holdsNone(t, s)
			}
		}
	}
	for elem, attrs := range map[string][]string{"p": {"class", "id", "data", "hrefs", "xon", "styles", "HREF", "\xff"}, "object": {"class"}, "script": {"type"}, "xmp": {"a"}, "": {"a"}} {
		for _, attr := range attrs {
			s := api.State{Kind: 9, Elem: elem, Attr: attr, Delim: '"'}
			holds(t, s, s, 3)
			s.Elem = "/" + elem
			holdsNone(t, s)
			s = api.State{Kind: 10, Elem: elem, Attr: attr}
			holdsNone(t, s)
		}
	}
	for _, pend := range []string{"<", "</", "</title", "<!", "x"} {
		for _, s := range elementStates() {
			s.Pend = pend
			holdsNone(t, s)
			s.Pend, s.Part = "", 0
			if s.Kind == 17 {
				s.Ref = "&"
				holdsNone(t, s)
			}
		}
	}
}

// TestStatesBehindHoles goes through what stands behind an action.
func TestStatesBehindHoles(t *testing.T) { // P17.3
	for text, ways := range map[string]map[string]string{
		"":               {"": "0|||0|||0|", "<p": "3|p||0|||0|", "&": "0|||0||%26|0|"},
		"<title>":        {"</title>": "0|||0|||0|", "<": "17|title||0|%3c||0|"},
		"<p class='":     {"'": "11|p||0|||0|", ":": "9|p|class|39|||0|"},
		"<a href='":      {"'": "11|a||0|||0|", "x": "9|a|href|39|||4|", "/": "9|a|href|39|||2|", "?:": "9|a|href|39|||3|", "&": "9|a|href|39||%26|4|"},
		"<a href='/":     {":": "9|a|href|39|||2|", "#": "9|a|href|39|||3|"},
		"<a href='?":     {"/:": "9|a|href|39|||3|"},
		"<script>":       {"": "19|script||0|||1|", "/": "19|script||0|||14|", "x": "19|script||0|||1|x", ";": "19|script||0|||0|", "</script>": "0|||0|||0|"},
		"<script>return": {"/": "19|script||0|||14|", " /": "19|script||0|||14|"},
		"<script>'":      {"'": "19|script||0|||1|", "\"": "19|script||0|||3|"},
		"<p on='f(":      {")": "9|p|on|39|||1|", "&quot;": "9|p|on|39|||2|"},
		"<p on='\"":      {"\"": "9|p|on|39|||1|", "&#34;": "9|p|on|39|||1|", "'": "11|p||0|||0|"},
		"<style>a{b:":    {"rl": "18|style||0|||0|%3f", ";": "18|style||0|||0|", " (": "18|style||0|||0|", "</style>": "0|||0|||0|"},
		"<p style='":     {"px": "9|p|style|39|||0|%3f", ";a:u": "9|p|style|39|||0|u", "'": "11|p||0|||0|"},
	} {
		behind, _, err := Hole(after(t, text))
		if err != api.OK {
			t.Fatalf("P17.3: Hole behind %q is %d", text, err)
		}
		for more, want := range ways {
			leads(t, behind, more, st(want))
		}
	}
	behindHole := func(text string) api.State {
		s, _, _ := Hole(after(t, text))
		return s
	}
	refuses(t, behindHole("<a href='"), "a:", 1, api.ErrURL)
	refuses(t, behindHole("<a href='"), "&#58;", 4, api.ErrURL)
	refuses(t, behindHole("<style>"), "l(", 1, api.ErrStyle)
	refuses(t, behindHole("<p style='"), "(", 0, api.ErrStyle)
	refuses(t, behindHole("<p style='"), "&#40;", 4, api.ErrStyle)
	refuses(t, behindHole("<script>"), "`", 0, api.ErrScript)
	refuses(t, behindHole("<p on='\""), "\n", 0, api.ErrScript)
	refuses(t, behindHole("<script>'"), "<!--", 3, api.ErrScript)
	holdsNone(t, behindHole("<a href='"))
	holds(t, behindHole("<a href='/"), st("9|a|href|39|||2|"), 5)
	holds(t, behindHole("<script>"), st("19|script||0|||1|"), 7)
	holds(t, behindHole("<style>"), st("18|style||0|||0|%3f"), 11)
}

// libraryKind is the kind of action by which html/template tells a value behind ahead, as what it makes of the value shows; 0 if it tells none.
func libraryKind(ahead string, behind string) int {
	page, err := template.New("page").Parse(ahead + "{{.}}" + behind)
	if err != nil {
		return -1
	}
	var out strings.Builder
	if page.Execute(&out, "x:y \"<") != nil {
		return 0
	}
	got := strings.TrimSuffix(strings.TrimPrefix(out.String(), ahead), behind)
	return map[string]int{
		"x:y &#34;&lt;": 3, "#ZgotmplZ": 4, "x:y%20%22%3c": 5, "x%3ay%20%22%3c": 6, "\"x:y \\\"\\u003c\"": 7, "\"x:y \\u0022\\u003c\"": 7, "x:y \\u0022\\u003c": 8,
		"&#34;x:y \\u0022\\u003c&#34;": 9, "&#34;x:y \\&#34;\\u003c&#34;": 9, " ZgotmplZ ": 11, "ZgotmplZ": 11,
	}[got]
}

func TestHolesAsTheLibraryHasThem(t *testing.T) { // P17.3: where html/template reads HTML alike
	for _, c := range []struct {
		kind          int
		ahead, behind string
	}{
		{1, "", ""}, {1, "a<p>", "</p>"}, {1, "<title>a</title>", ""}, {1, "<script>f()</script>", ""}, {1, "<style>a{}</style>", "<p>"}, {1, "<p on='\"'>", ""}, {1, "<a href='x:y'>", "</a>"}, {1, "<P CLASS=x>", ""},
		{2, "<title>", "</title>"}, {2, "<textarea>a ", "</textarea>"}, {2, "<TITLE>x &amp; ", "</title>"},
		{3, "<p class=\"", "\">"}, {3, "<p class='a ", "'>"}, {3, "<p a=b id='", "'>"}, {3, "<p a b='c' title = \"", "\"/>"},
		{4, "<a href=\"", "\">"}, {4, "<a HREF='", "'>"}, {4, "<form action='", "'>"}, {4, "<img alt='' src=\"", "\">"},
		{5, "<a href=\"/", "\">"}, {5, "<a href=\"http://x/", "/y\">"}, {5, "<img src='x/y/", "'>"},
		{6, "<a href=\"/?a=", "\">"}, {6, "<a href='?", "&b=c'>"}, {6, "<a href=\"x#", "\">"}, {6, "<a href='/x&#63;a=", "'>"},
		{7, "<script>x = ", ";</script>"}, {7, "<script>f(", ")</script>"}, {7, "<script>a = '</p>' + ", "</script>"}, {7, "<script>return ", "</script>"}, {7, "<script>x = /[\"/]/.test(", ")</script>"}, {7, "<SCRIPT>x = ", "</SCRIPT>"},
		{8, "<script>x = \"", "\";</script>"}, {8, "<script>x = 'a\\' ", "';</script>"}, {8, "<script>x = 1 / 2; y = '/", "'</script>"},
		{9, "<p onclick=\"f(", ")\">"}, {9, "<p onclick='x = ", "'>"}, {9, "<p onclick=\"x = &#34;a&quot; + ", "\">"},
		{10, "<p onclick=\"f('", "')\">"}, {10, "<p onclick='f(&#34;", "&#34;)'>"}, {10, "<p onclick='f(\"a\", \"b ", "\")'>"},
		{11, "<style>a{b:", "}</style>"}, {11, "<style>a{content:\"x\";b:", "}</style>"},
		{12, "<p style=\"color: ", "\">"}, {12, "<p style='a:url(x); b:", "'>"}, {12, "<p style='a:&quot;x&quot;;b:", "'>"},
	} {
		s := after(t, c.ahead)
		_, kind, _ := Hole(s)
		same := map[int]int{1: 3, 2: 3, 3: 3, 4: 4, 5: 5, 6: 6, 7: 7, 8: 8, 9: 9, 10: 8, 11: 11, 12: 11}[c.kind]
		if got := libraryKind(c.ahead, c.behind); kind != c.kind || got != same {
			t.Errorf("P17.3: behind %q stands an action of %d, not %d; the library has %d", c.ahead, kind, c.kind, got)
		}
	}
}
