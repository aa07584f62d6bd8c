package lex

import (
	"slices"
	"strings"
	"testing"
	"text/template/parse"

	"muslin/api"
)

func TestPieces(t *testing.T) { // P18.1
	cuts(t, "")
	cuts(t, "a{{.b}}c", text("a", 0), inside(".b", 1), text("c", 7)) // the chapter's example
	cuts(t, "abc", text("abc", 0))
	cuts(t, " \n", text(" \n", 0))
	cuts(t, "{{x}}", inside("x", 0))
	cuts(t, "{{a}}{{b}}{{}}", inside("a", 0), inside("b", 5), inside("", 10)) // no empty text between
	cuts(t, "{{a}}{{b}} {{c}}x", inside("a", 0), inside("b", 5), text(" ", 10), inside("c", 11), text("x", 16))
	cuts(t, every(), text(every(), 0))
	cuts(t, "é{{é}}\xff", text("é", 0), inside("é", 2), text("\xff", 8))
}

func TestSignsInTexts(t *testing.T) { // P18.1: what neither begins nor ends an action
	for _, s := range []string{"{", "a{", "{a{", "{ {", "}", "}}", "a}}b", "-}}", "a -}} b", " -}}", "{-", "{%", "/*", "*/", "/* a */", "{/* a */}", "\"", "\\", "\"{", "{\\{", "-", "- ", "}}{", "}}}}"} {
		cuts(t, s, text(s, 0))
		cuts(t, "{{.}}"+s, inside(".", 0), text(s, 5))
		cuts(t, s+" {{.}}", text(s+" ", 0), inside(".", len(s)+1))
		cuts(t, "x"+s+" {{.}}"+s+" {{-1}}", text("x"+s+" ", 0), inside(".", len(s)+2), text(s+" ", len(s)+7), inside("-1", 2*len(s)+8))
	}
	cuts(t, "{{a}}}", inside("a", 0), text("}", 5))
	cuts(t, "{{a}}}}", inside("a", 0), text("}}", 5))
	cuts(t, "{{{a}}", inside("{a", 0))
	cuts(t, "{{{{a}}", inside("{{a", 0))
	cuts(t, "{ {{a}}", text("{ ", 0), inside("a", 2))
}

func TestWithinActions(t *testing.T) { // P18.1
	for _, s := range []string{"", "a", "{", "{{", "} a", "a}b", "-", "--", "-a", "a-", "a -b", "*/", "/", "/ *", "a/*", "a /* b */", "./* */", "-/", "- ", `""`, `"}}"`, `"a}}b"`, `"}}" "}}"`, `"\"}}"`, `"\\"`, `"\\\"}}"`, `"\}}"`, `"}\}"`, `"{{"`, `"/*"`, `"` + "\n" + `}}"`, `"-}}"`, `" -}}"`, `\`, `\\`, `a\`, `\"a"`, `"a"b"c"`, "'", "'\"'\"", "`", "\x00", "\xff", "é", "if .a", "a\nb", ":=", "|"} {
		in := strings.Trim(strings.TrimSuffix(s, "- "), blanks)
		cuts(t, "{{"+s+"}}", inside(in, 0))
		cuts(t, "a{{"+s+"}}}}b", text("a", 0), inside(in, 1), text("}}b", len(s)+5))
	}
	cuts(t, "{{- }}", inside("", 0))
	cuts(t, "{{}}}", inside("", 0), text("}", 4))
	cuts(t, "{{} }}}", inside("}", 0), text("}", 6))
	cuts(t, `{{"\"}}"}}`, inside(`"\"}}"`, 0))
	cuts(t, `{{"\\"}}"}}`, inside(`"\\"`, 0), text(`"}}`, 8))
	cuts(t, `{{\"}}"}}`, inside(`\"}}"`, 0)) // a \ has no meaning but in quotes
	cuts(t, `{{"a"}}{{"b"}}`, inside(`"a"`, 0), inside(`"b"`, 7))
}

func TestBlanksOfActions(t *testing.T) { // P18.1
	for _, blank := range []string{" ", "\t", "\n", "\f", "\r", blanks, blanks + blanks} {
		cuts(t, "{{"+blank+"}}", inside("", 0))
		cuts(t, "{{"+blank+"a"+blank+"}}", inside("a", 0))
		cuts(t, "x "+"{{"+blank+"a"+blank+"b}}"+" y", text("x ", 0), inside("a"+blank+"b", 2), text(" y", 8+2*len(blank)))
		cuts(t, "{{"+blank+"-}}", inside("", 0))
		cuts(t, "{{"+blank+"-"+blank+"}}", inside("-", 0))
		cuts(t, "{{"+blank+"-a}}", inside("-a", 0))
		cuts(t, "{{"+blank+"- a-"+blank+"}}", inside("- a-", 0))
	}
	for _, other := range []string{"\v", "\x00", "\u00a0", "\u0085", "\x1c", "\u2003", "\x1f", "\x08"} {
		cuts(t, "{{"+other+"}}", inside(other, 0))
		cuts(t, " {{-"+other+"}}", text(" ", 0), inside("-"+other, 1))
		cuts(t, "{{"+other+"-}} ", inside(other+"-", 0), text(" ", 5+len(other)))
		cuts(t, other+"{{- . -}}"+other, text(other, 0), inside(".", len(other)), text(other, 9+len(other)))
	}
}

func TestTrimmedBlanks(t *testing.T) { // P18.1
	for _, blank := range []string{"", " ", "\t", "\n", "\f", "\r", blanks, blanks + blanks} {
		n := len(blank)
		for _, c := range []byte(blanks) {
			one := octet(c)
			cuts(t, "x"+blank+"{{-"+one+"a}}", text("x", 0), inside("a", 1+n))
			cuts(t, "{{a"+one+"-}}"+blank+"x", inside("a", 0), text("x", 7+n))
			cuts(t, blank+"{{-"+one+"a"+one+"-}}"+blank, inside("a", n))
			cuts(t, blank+"{{-"+one+"-}}"+blank, inside("", n)) // one blank for both
			cuts(t, blank+"{{-"+one+one+"-}}"+blank, inside("", n))
			cuts(t, blank+"{{-"+one+"a}}{{b"+one+"-}}"+blank, inside("a", n), inside("b", 7+n))
			cuts(t, "{{a"+one+"-}}"+blank+"{{-"+one+"b}}", inside("a", 0), inside("b", 7+n))
		}
		for _, kept := range []string{"{{-a}}", "{{--}}", "{{-}}", "{{a-}}", "{{a}}", "{{ a }}", "{{ - a}}", "{{a - }}"} {
			in := inside(strings.Trim(kept, "{} "), 1+n)
			cuts(t, "x"+blank+kept+blank+"x", text("x"+blank, 0), in, text(blank+"x", 1+n+len(kept)))
		}
		cuts(t, "x"+blank+"y"+blank+"{{- a -}}"+blank+"z"+blank+"x", text("x"+blank+"y", 0), inside("a", 2+2*n), text("z"+blank+"x", 11+3*n))
		cuts(t, "y"+blank+"x{{- a -}}x"+blank+"y", text("y"+blank+"x", 0), inside("a", 2+n), text("x"+blank+"y", 11+n))
	}
	cuts(t, "x {{- a}} y", text("x", 0), inside("a", 2), text(" y", 9))
	cuts(t, "x {{a -}} y", text("x ", 0), inside("a", 2), text("y", 10))
	cuts(t, " {{- a}} {{b -}} ", inside("a", 1), text(" ", 8), inside("b", 9))
	cuts(t, "{{a -}} {{b}} ", inside("a", 0), inside("b", 8), text(" ", 13))
	cuts(t, " {{a}} {{- b}}", text(" ", 0), inside("a", 1), inside("b", 7))
	cuts(t, " {{- - -}} ", inside("-", 1))
	cuts(t, " {{- -a- -}} ", inside("-a-", 1))
	cuts(t, " {{- --}} ", inside("--", 1), text(" ", 9))
	cuts(t, " {{-- -}} ", text(" ", 0), inside("--", 1))
	cuts(t, `{{- "a -}}" -}} b`, inside(`"a -}}"`, 0), text("b", 16))
	cuts(t, `a {{- "- }}"}} b`, text("a", 0), inside(`"- }}"`, 2), text(" b", 14))
	cuts(t, "{{a -}} } b", inside("a", 0), text("} b", 8))
	cuts(t, "a { {{- b -}} {", text("a {", 0), inside("b", 4), text("{", 14))
}

func TestRemarks(t *testing.T) { // P18.1
	for _, remark := range []string{
		"{{/**/}}", "{{/* */}}", "{{/* a */}}", "{{ /**/}}", "{{\t\n\f\r /**/}}", "{{/**/ }}", "{{ /* a */ }}", "{{-/**/}}", "{{-/* - */}}", "{{/**/-}}", "{{-/**/-}}", "{{/***/}}", "{{/****/}}", "{{/*/*/}}", "{{/*//*/}}", "{{/* }} */}}", "{{/* {{ */}}", "{{/*{{.a}}*/}}", "{{/*}}}}*/}}", "{{/* -}} */}}", "{{/*\n*/}}", "{{/*\" */}}", "{{/* \\\"*/}}", "{{/*\xff\x00*/}}", "{{/* a */ b}}", "{{/* a */ {{}}", "{{/**/*/}}", "{{/**//**/}}", "{{/* a */ /* b}}", "{{/**/\"}}\"}}", "{{/**/ \"a\" \"}}\" c}}", "{{/**/\"\\\"}}\"}}", "{{/**/\"*/}}\"}}", "{{/*\"*/\"\"}}", "{{/**/\"/*\"}}", "{{/**/-}}", "{{/**/ - }}", "{{/**/\\}}",
	} {
		n := len(remark)
		cuts(t, remark)
		cuts(t, "a "+remark, text("a ", 0))
		cuts(t, remark+" b", text(" b", n))
		cuts(t, "a "+remark+" b", text("a  b", 0))
		cuts(t, "a"+remark+"b"+remark+"c", text("abc", 0))
		cuts(t, "a"+remark+remark+remark+"b", text("ab", 0))
		cuts(t, remark+"a"+remark+remark+"b", text("ab", n))
		cuts(t, "a"+remark+"{{.}}"+remark+"b", text("a", 0), inside(".", 1+n), text("b", 6+2*n))
		cuts(t, "{{.}}"+remark+"{{.}}"+remark, inside(".", 0), inside(".", 5+n))
		cuts(t, "}"+remark+"}", text("}}", 0))
	}
	for _, action := range []string{"{{ -/**/}}", "{{ - /**/}}", "{{--/**/}}", "{{- -/**/}}", "{{/}}", "{{/ *a*/}}", "{{*/}}", "{{a/**/}}", "{{./**/}}", "{{\v/**/}}", "{{\"\"/**/}}", "{{-/ **/}}", "{{{/**/}}", "{{\\/**/}}"} {
		in := strings.Trim(strings.TrimPrefix(strings.TrimSuffix(strings.TrimPrefix(action, "{{"), "}}"), "- "), blanks)
		cuts(t, "a"+action+"b", text("a", 0), inside(in, 1), text("b", len(action)+1))
	}
	cuts(t, "{{a}}/*{{b}}*/", inside("a", 0), text("/*", 5), inside("b", 7), text("*/", 12))
}

func TestTrimmedBlanksOfRemarks(t *testing.T) { // P18.1
	for _, remark := range []string{"{{- /**/ -}}", "{{-\n/* a */\n-}}", "{{-\t\t/* }} */ b -}}", "{{- /**/\f-}}", "{{- /**/\"}}\" -}}"} {
		n := len(remark)
		cuts(t, "a "+remark+" b", text("ab", 0))
		cuts(t, " "+remark+" b", text("b", n+2))
		cuts(t, "a "+remark+"\n", text("a", 0))
		cuts(t, blanks+remark+blanks)
		cuts(t, "a "+remark+" "+remark+" b", text("ab", 0))
		cuts(t, "a "+remark+" b c "+remark+" d", text("ab cd", 0))
		cuts(t, "{{.}} "+remark+" {{.}}", inside(".", 0), inside(".", 7+n))
	}
	cuts(t, "a {{- /**/}} b", text("a b", 0))
	cuts(t, "a {{/**/ -}} b", text("a b", 0))
	cuts(t, "a {{-/**/ -}} b", text("a b", 0)) // no blank behind the -
	cuts(t, "a {{- /**/-}} b", text("a b", 0))
	cuts(t, " {{/**/ -}} b", text(" b", 0))
	cuts(t, "{ {{- /**/ -}} {a}}", text("{{a}}", 0)) // what no {{ is
	cuts(t, " {{- /**/}} b", text(" b", 11))
	cuts(t, "{{/* -}} */ -}} b", text("b", 16))

	// Ahead: all text behind the last action.
	cuts(t, "a {{/**/}} {{- b}}", text("a", 0), inside("b", 11))
	cuts(t, "a {{/**/}}\n{{/**/}}\t{{- /**/}}c", text("ac", 0))
	cuts(t, " {{/**/}} {{/**/}} {{- a}}b", inside("a", 19), text("b", 26))
	cuts(t, " {{.}} {{/**/}} {{- a}}", text(" ", 0), inside(".", 1), inside("a", 16))
	cuts(t, "a {{/**/}}b {{- c}}", text("a b", 0), inside("c", 12))
	cuts(t, "a{{/**/}} {{- /**/}} {{b}}", text("a ", 0), inside("b", 21))
	cuts(t, " {{/**/}} {{- /**/}} a", text(" a", 20))

	// Behind: as far as the next {{ .
	cuts(t, "{{a -}} {{/**/}} b", inside("a", 0), text(" b", 16))
	cuts(t, "{{a -}} {{/**/ -}} b", inside("a", 0), text("b", 19))
	cuts(t, "{{a -}}{{/**/}} b", inside("a", 0), text(" b", 15))
	cuts(t, "{{/**/ -}} {{/**/}} b", text(" b", 19))
	cuts(t, "{{/**/ -}} {{a}} b", inside("a", 11), text(" b", 16))
	cuts(t, "{{a -}} b {{/**/}} c", inside("a", 0), text("b  c", 8))
}

func TestActionsWithoutAnEnd(t *testing.T) { // P18.1
	for _, end := range []string{
		"{{", "{{a", "{{}", "{{a}", "{{ ", "{{-", "{{- ", "{{a} }", "{{{{", "{{{{}", "{{\"", "{{\"}}", "{{a \"}}", "{{\"a\" \"}}", "{{\"\\\"}}", "{{\"\\", "{{\"\\\\\\\"}}", "{{\"}}\\", "{{\\\"}}", "{{\\\"\\\"}}", "{{a -}", "{{\"-}}", "{{\"}}{{\\\"}}",
		"{{/*", "{{/", "{{/*}}", "{{/*/}}", "{{/*/ }}", "{{/* a * / }}", "{{- /*}}", "{{-/*}}", "{{ /* a }}b", "{{/**/", "{{/**/}", "{{/* */ a", "{{/**/\"}}", "{{/**/\"}}\\\"}}", "{{/**/ \" */ }}", "{{/**/\"\\", "{{/*\"*/\"}}", "{{/*}}\"*/",
	} {
		endless(t, end, 0)
		endless(t, "a"+end, 1)
		for _, ahead := range []string{"a ", "{{.}}", "{ }}", "{{a}}b{{c}}", "{{/* }} */}}", "{{\"}}\"}}\n", "{{- a -}} "} {
			endless(t, ahead+end, len(ahead))
		}
	}
	endless(t, "{{a}}b{{c", 6)
	endless(t, "{{a}}b{{", 6)
	endless(t, "{{\"}}{{a\\", 0)   // and not that of the second {{
	endless(t, "{{/* */ \" {{", 0) // and not that of the second {{
}

func TestLongTemplates(t *testing.T) { // P18.1, Limits
	const most = 16384
	for _, fill := range []string{"a", " ", "{", "}", "\xff"} {
		s := "b" + strings.Repeat(fill, most-1)
		if fill == "{" {
			s = strings.ReplaceAll(s, "{{", "{ ")
		}
		cuts(t, s, text(s, 0))
		for _, long := range []string{s + "a", s + s, "{{" + s, s[:most-1] + "{{", "{{a}}" + s} {
			if got, at, err := Items(long); got != nil || at != 0 || err != api.ErrLong {
				t.Errorf("P18.1: Items of %d octets is %d pieces, %d, %d", len(long), len(got), at, err)
			}
		}
	}
	within := strings.Repeat("a", most-4)
	cuts(t, "{{"+within+"}}", inside(within, 0))
	endless(t, strings.Repeat("a", most-2)+"{{", most-2)
	endless(t, strings.Repeat("{{a}}", most/5-1)+"{{\"}}", most/5*5-5)
	got, at, err := Items(strings.Repeat("{{}}", most/4))
	if len(got) != most/4 || at != most || err != api.OK {
		t.Errorf("P18.1: Items of many actions is %d pieces, %d, %d", len(got), at, err)
	}
	remarks := strings.Repeat("{{/**/}}a {{- /**/}}", most/20)
	cuts(t, remarks, text(strings.Repeat("a", most/20), 8))
}

func TestSmallTemplates(t *testing.T) { // P18.1
	for s := range smallTexts([]string{"{{", "}}", "{", "}", "-", " ", "\"", "\\", "/*", "*/", "a"}, 5) {
		cutsAsShould(t, s)
	}
	for s := range smallTexts([]string{"{{a}}", "{{- a}}", "{{a -}}", "{{-\t-}}", "{{/**/}}", "{{- /**/}}", "{{/**/ -}}", "{{-\n/**/ -}}", " ", "\n", "b", "{", "{{\"}}\" -}}"}, 5) {
		cutsAsShould(t, s)
	}
	for s := range smallTexts([]string{"{{/*", "{{", "- ", "-", " -}}", "}}", "*/", "\"", "\\", "\n", "x"}, 5) {
		cutsAsShould(t, s)
	}
}

// goPieces are the texts and the number of actions that Go's library reads of a template that it takes: of each action a |, texts as they are.
func goPieces(s string) (string, bool) {
	tree, err := parse.Parse("t", s, "", "")
	if err != nil {
		return "", false
	}
	out := ""
	for _, node := range tree["t"].Root.Nodes {
		if of, ok := node.(*parse.TextNode); ok {
			out += string(of.Text)
		} else {
			out += "|"
		}
	}
	return out, true
}

func TestPiecesAsGoReadsThem(t *testing.T) { // P18.1: where both read alike
	read := 0
	for s := range smallTexts([]string{"a", " ", "\n", "{", "}", "{{.}}", "{{- .}}", "{{. -}}", "{{- . -}}", "{{\"}}\" -}}", "{{ \"\\\"}}\" }}"}, 4) {
		want, ok := goPieces(s)
		if !ok {
			continue
		}
		read++
		items, _, _ := Items(s)
		got := ""
		for _, item := range items {
			got += []string{1: item.Text, 2: "|"}[item.Kind]
		}
		if got != want {
			t.Errorf("P18.1: %q has the pieces %q, not %q", s, got, want)
		}
	}
	for s := range smallTexts([]string{"a", " ", "\n", "{{/* }} */}}", "{{- /* {{ */}}", "{{/*\"*/ -}}", "{{.}}", "{{. -}}"}, 4) {
		if strings.Count(s, "/*") > 1 {
			continue // Go's library trims each text between remarks alone
		}
		if want, ok := goPieces(s); ok {
			read++
			items, _, _ := Items(s)
			got := ""
			for _, item := range items {
				got += []string{1: item.Text, 2: "|"}[item.Kind]
			}
			if got != want {
				t.Errorf("P18.1: %q has the pieces %q, not %q", s, got, want)
			}
		}
	}
	if read < 10000 {
		t.Errorf("Go's library read %d templates only", read)
	}
}

func TestPlacesOfPieces(t *testing.T) { // P18.1: each piece begins at its place
	for s := range smallTexts([]string{"{{a}}", "{{- a -}}", "{{/**/}}", "{{- /**/ -}}", " ", "b", "\n"}, 5) {
		items, _, _ := Items(s)
		behind := 0
		for i, item := range items {
			opens := strings.HasPrefix(s[item.At:], "{{")
			if item.At < behind || opens != (item.Kind == 2) || item.Kind == 1 && s[item.At] != item.Text[0] {
				t.Fatalf("P18.1: the piece %+v of %q is not at its place", item, s)
			}
			if i > 0 && item.Kind == 1 && items[i-1].Kind == 1 || item.Text == "" {
				t.Fatalf("P18.1: the pieces of %q are %+v", s, items)
			}
			behind = item.At + 1
		}
	}
	if got, _, _ := Items("a{{b}}"); !slices.Equal(got, []Item{{Kind: 1, Text: "a", At: 0}, {Kind: 2, Text: "b", At: 1}}) {
		t.Errorf("P18.1: the pieces are %+v", got)
	}
}
