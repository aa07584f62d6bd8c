package parse_test

import (
	"strings"
	"testing"

	"muslin/api"
	"muslin/parse"
)

func TestTextsWithoutActions(t *testing.T) { // P20.1
	tells(t, "", first())
	for _, s := range []string{"a", " ", "\n", "{", "}", "}}", "{ {", "<b>", "end", "else", every(), strings.Repeat("a", api.MaxText-len(remark))} {
		tells(t, s, first(text(0, s)))
	}
	if got, at, err := parse.Parse(strings.Repeat("a", api.MaxText)); len(got) != 1 || len(got[0].Body) != 1 || len(got[0].Body[0].Text) != api.MaxText || at != api.MaxText || err != api.OK {
		t.Errorf("P20.1: Parse of a text of MaxText octets is %s, %d, %d", brief(got), at, err)
	}
}

func TestActionsAlone(t *testing.T) { // P20.1
	tells(t, "{{.}}", first(action(0, ".")))
	tells(t, "{{.a.b}}", first(action(0, ".a.b")))
	tells(t, `{{ "x" | print .a $y 7 true nil}}`, first(action(0, `"x" | print .a $y 7 true nil`)))
	tells(t, "{{$x}}", first(action(0, "$x")))
	tells(t, "{{$x | len}}", first(action(0, "$x | len")))
	tells(t, `{{"end"}}`, first(action(0, `"end"`)))
	tells(t, "{{$end.if}}", first(action(0, "$end.if")))
	tells(t, "{{.end}}", first(action(0, ".end")))
	tells(t, "{{$x := .}}", first(variable(0, "x", ".")))
	tells(t, "{{ $x:=len .a|not }}", first(variable(0, "x", "len .a | not")))
	tells(t, "{{$end := $if.define}}", first(variable(0, "end", "$if.define")))
	tells(t, "{{$"+long()+" := $x}}", first(variable(0, long(), "$x")))
	tells(t, "{{$_ := 1}}", first(variable(0, "_", "1")))
	tells(t, `{{template "x"}}`, first(called(0, "x", "")))
	tells(t, `{{template "x" .}}`, first(called(0, "x", ".")))
	tells(t, `{{template"x"print 1 $ | len}}`, first(called(0, "x", "print 1 $ | len")))
	tells(t, `{{template "x" "y"}}`, first(called(0, "x", `"y"`)))
	tells(t, `{{template "end"}}`, first(called(0, "end", "")))
	tells(t, `{{template "`+long()+`" nil}}`, first(called(0, long(), "nil")))
	tells(t, `{{define "x"}}{{end}}`, first(), named("x"))
	tells(t, `{{define "`+long()+`"}}{{end}}`, first(), named(long()))
	tells(t, `{{define "define"}}{{end}}`, first(), named("define"))
	for _, b := range blocks {
		tells(t, "{{"+b.word+" .}}{{end}}", first(block(b.kind, 0, ".")))
		tells(t, "{{"+b.word+` print "a" $x.b | eq 1}}{{end}}`, first(block(b.kind, 0, `print "a" $x.b | eq 1`)))
		tells(t, "{{"+b.word+` "else"}}{{ end }}`, first(block(b.kind, 0, `"else"`)))
		tells(t, "{{"+b.word+"$end}}{{end}}", first(block(b.kind, 0, "$end")))
	}
	tells(t, "{{if .a}}b{{end}}", first(when(0, ".a", text(9, "b")))) // the chapter's example
}

func TestNodesBehindEachOther(t *testing.T) { // P20.1
	tells(t, `a{{.}}b{{$x := 1}}c{{template "y"}}d{{template "z" .}}e`, first(text(0, "a"), action(1, "."), text(6, "b"), variable(7, "x", "1"), text(18, "c"), called(19, "y", ""), text(35, "d"), called(36, "z", "."), text(54, "e")))
	tells(t, "{{.}}{{.}}{{$}}", first(action(0, "."), action(5, "."), action(10, "$")))
	for _, b := range blocks {
		n := len(b.word)
		tells(t, "a{{"+b.word+" .}}b{{end}}c{{"+b.word+" 1}}{{.}}{{end}}", first(text(0, "a"), block(b.kind, 1, ".", text(n+7, "b")), text(n+15, "c"), block(b.kind, n+16, "1", action(n+n+22, "."))))
	}
}

func TestBlocksWithinEachOther(t *testing.T) { // P20.1
	for _, b := range blocks {
		n := len(b.word)
		for _, in := range blocks {
			m := len(in.word)
			tells(t, "{{"+b.word+" 1}}{{"+in.word+" 2}}a{{end}}{{end}}", first(block(b.kind, 0, "1", block(in.kind, n+6, "2", text(n+m+12, "a")))))
			tells(t, "{{"+b.word+" 1}}b{{"+in.word+" 2}}a{{end}}c{{end}}d", first(block(b.kind, 0, "1", text(n+6, "b"), block(in.kind, n+7, "2", text(n+m+13, "a")), text(n+m+21, "c")), text(n+m+29, "d")))
			tells(t, "{{"+b.word+" 1}}{{else}}{{"+in.word+" 2}}a{{end}}{{end}}", first(otherwise(block(b.kind, 0, "1"), block(in.kind, n+14, "2", text(n+m+20, "a")))))
			tells(t, "{{"+b.word+" 1}}{{"+in.word+" 2}}{{else}}a{{end}}{{else}}b{{end}}", first(otherwise(block(b.kind, 0, "1", otherwise(block(in.kind, n+6, "2"), text(n+m+20, "a"))), text(n+m+36, "b"))))
		}
		tells(t, `{{`+b.word+` 1}}{{.}}{{$x := 2}}{{template "y" 3}}{{end}}`, first(block(b.kind, 0, "1", action(n+6, "."), variable(n+11, "x", "2"), called(n+22, "y", "3"))))
		tells(t, `{{`+b.word+` 1}}{{else}}{{.}}{{$x := 2}}{{template "y" 3}}{{end}}`, first(otherwise(block(b.kind, 0, "1"), action(n+14, "."), variable(n+19, "x", "2"), called(n+30, "y", "3"))))
		tells(t, `{{define "d"}}{{`+b.word+` 1}}a{{else}}b{{end}}{{end}}`, first(), named("d", otherwise(block(b.kind, 14, "1", text(n+20, "a")), text(n+29, "b"))))
	}
	tells(t, `{{define "d"}}a{{.}}{{$x := 1}}{{template "y"}}{{end}}`, first(), named("d", text(14, "a"), action(15, "."), variable(20, "x", "1"), called(31, "y", "")))
}

func TestElse(t *testing.T) { // P20.1
	for _, b := range blocks {
		n, begin := len(b.word), "{{"+b.word+" 1}}"
		tells(t, begin+"a{{else}}b{{end}}", first(otherwise(block(b.kind, 0, "1", text(n+6, "a")), text(n+15, "b"))))
		tells(t, begin+"{{else}}b{{end}}", first(otherwise(block(b.kind, 0, "1"), text(n+14, "b"))))
		tells(t, begin+"a{{else}}{{end}}", first(block(b.kind, 0, "1", text(n+6, "a"))))
		tells(t, begin+"{{else}}{{end}}", first(block(b.kind, 0, "1")))
		tells(t, begin+"{{.}}a{{ else }}b{{$}}{{end}}c", first(otherwise(block(b.kind, 0, "1", action(n+6, "."), text(n+11, "a")), text(n+22, "b"), action(n+23, "$")), text(n+35, "c")))
	}
}

func TestElseIf(t *testing.T) { // P20.1
	for _, b := range blocks {
		n, begin := len(b.word), "{{"+b.word+" 1}}"
		tells(t, begin+"{{else if 2}}{{end}}", first(otherwise(block(b.kind, 0, "1"), when(n+6, "2"))))
		tells(t, begin+"a{{else if 2}}b{{end}}c", first(otherwise(block(b.kind, 0, "1", text(n+6, "a")), when(n+7, "2", text(n+20, "b"))), text(n+28, "c")))
		tells(t, begin+"a{{else if 2}}b{{else}}c{{end}}d", first(otherwise(block(b.kind, 0, "1", text(n+6, "a")), otherwise(when(n+7, "2", text(n+20, "b")), text(n+29, "c"))), text(n+37, "d")))
		tells(t, begin+"a{{else if 2}}b{{else if .c|len}}c{{else}}d{{end}}e", first(
			otherwise(block(b.kind, 0, "1", text(n+6, "a")),
				otherwise(when(n+7, "2", text(n+20, "b")),
					otherwise(when(n+21, ".c | len", text(n+39, "c")), text(n+48, "d")))),
			text(n+56, "e")))
		tells(t, begin+"{{else}}{{if 2}}{{end}}{{end}}", first(otherwise(block(b.kind, 0, "1"), when(n+14, "2")))) // an if alone in Else, with an end of its own
		tells(t, begin+"{{else if 2}}{{"+b.word+" 3}}{{else if 4}}a{{end}}b{{else}}c{{end}}d", first(
			otherwise(block(b.kind, 0, "1"),
				otherwise(when(n+6, "2",
					otherwise(block(b.kind, n+19, "3"), when(n+n+25, "4", text(n+n+38, "a"))), text(n+n+46, "b")),
					text(n+n+55, "c"))),
			text(n+n+63, "d")))
		tells(t, begin+"{{if 2}}{{else if 3}}{{end}}{{else if 4}}{{end}}", first(otherwise(block(b.kind, 0, "1", otherwise(when(n+6, "2"), when(n+14, "3"))), when(n+34, "4"))))
	}
	tells(t, "{{if 1}}{{ else  if\t2 }}{{ end\n}}", first(otherwise(when(0, "1"), when(8, "2"))))
	tells(t, `{{define "d"}}{{if 1}}{{else if 2}}{{else if 3}}{{end}}a{{end}}b`, first(text(63, "b")), named("d", otherwise(when(14, "1"), otherwise(when(22, "2"), when(35, "3"))), text(55, "a")))
}

func TestDefines(t *testing.T) { // P20.1
	tells(t, `{{define "x"}}a{{end}}b`, first(text(22, "b")), named("x", text(14, "a")))
	tells(t, `b{{define "x"}}a{{end}}`, first(text(0, "b")), named("x", text(15, "a")))
	tells(t, `{{define "x"}}a{{end}}{{define "w"}}b{{end}}`, first(), named("x", text(14, "a")), named("w", text(36, "b"))) // as they come
	tells(t, `{{define "a"}}{{end}}{{define "A"}}{{end}}{{define "_"}}{{end}}{{define "a1"}}{{end}}`, first(), named("a"), named("A"), named("_"), named("a1"))
	tells(t, `{{.}}{{define "x"}}a{{end}}{{$}}{{define "w"}}b{{end}}{{template "x"}}`, first(action(0, "."), action(27, "$"), called(54, "x", "")), named("x", text(19, "a")), named("w", text(46, "b")))
	for _, b := range blocks {
		n := len(b.word)
		tells(t, "{{"+b.word+` 1}}a{{end}}{{define "x"}}b{{end}}{{`+b.word+` 2}}c{{end}}`, first(block(b.kind, 0, "1", text(n+6, "a")), block(b.kind, n+36, "2", text(n+n+42, "c"))), named("x", text(n+28, "b")))
	}
	tells(t, `{{template "y"}}{{define "x"}}{{template "x"}}{{end}}`, first(called(0, "y", "")), named("x", called(30, "x", ""))) // whether there is such a template is not asked
}

func TestTextsBetweenWhichJustDefinesStood(t *testing.T) { // P20.1
	tells(t, `a{{define "x"}}b{{end}}c`, first(text(0, "ac")), named("x", text(15, "b")))
	tells(t, `a{{define "x"}}{{end}}b{{define "y"}}{{.}}{{end}}c`, first(text(0, "abc")), named("x"), named("y", action(37, ".")))
	tells(t, `a{{define "x"}}{{end}}{{define "y"}}{{end}}b`, first(text(0, "ab")), named("x"), named("y"))
	tells(t, `{{define "x"}}{{end}}a{{define "y"}}{{end}}b`, first(text(21, "ab")), named("x"), named("y"))
	tells(t, `a{{/**/}}b`, first(text(0, "ab")))
	tells(t, `a{{/**/}}{{define "x"}}p{{/**/}}q{{end}}{{/**/}}b{{/**/}}c`, first(text(0, "abc")), named("x", text(23, "pq")))
	tells(t, `{{/**/}}a{{define "x"}}{{end}}{{/**/}}b`, first(text(8, "ab")), named("x"))
	tells(t, `a{{.}}{{define "x"}}{{end}}b{{define "y"}}{{end}}c`, first(text(0, "a"), action(1, "."), text(27, "bc")), named("x"), named("y"))
	tells(t, `a{{define "x"}}{{end}}{{.}}{{define "y"}}{{end}}b`, first(text(0, "a"), action(22, "."), text(48, "b")), named("x"), named("y"))
	tells(t, `a{{define "x"}}b{{.}}c{{end}}d`, first(text(0, "ad")), named("x", text(15, "b"), action(16, "."), text(21, "c")))
	tells(t, `{{if 1}}a{{end}}b{{define "x"}}{{end}}c`, first(when(0, "1", text(8, "a")), text(16, "bc")), named("x"))
	tells(t, "a "+`{{- define "x" -}} b {{- end -}} `+"c", first(text(0, "ac")), named("x", text(21, "b")))
	tells(t, " "+`{{- define "x"}}{{end}} a`, first(text(24, " a")), named("x"))
}

func TestTrimsAndRemarks(t *testing.T) { // P20.1
	tells(t, " {{- .a -}} ", first(action(1, ".a")))
	tells(t, "a {{- .a -}} b", first(text(0, "a"), action(2, ".a"), text(13, "b")))
	tells(t, "a {{- if .a -}} b {{- else -}} c {{- end -}} d", first(text(0, "a"), otherwise(when(2, ".a", text(16, "b")), text(31, "c")), text(45, "d")))
	tells(t, "{{- if 1 }} {{- else if 2 -}} {{- end -}}", first(otherwise(when(0, "1"), when(12, "2"))))
	tells(t, "{{if 1}} a{{/**/}}b {{else}}{{/* {{end}} */}}{{end}}{{/**/}}", first(when(0, "1", text(8, " ab "))))
	tells(t, "{{if 1}}{{- /**/ -}} {{range 2}}{{end}} {{- /**/ -}} {{end}}", first(when(0, "1", each(21, "2"))))
	tells(t, `{{- template "x" -}}{{- $y := 1 -}}{{with 2 -}} {{- end}}`, first(called(0, "x", ""), variable(20, "y", "1"), with(35, "2")))
	tells(t, `{{.}}{{/**/}}{{define "x"}}{{/**/}}{{end}}{{/**/}}{{.}}`, first(action(0, "."), action(50, ".")), named("x"))
}

func TestItemsErrorGoesAheadOfAll(t *testing.T) { // P20.1
	for _, size := range []int{api.MaxText + 1, 1 << 17} {
		refuses(t, strings.Repeat("a", size), 0, api.ErrLong)
		refuses(t, "{{end}}"+strings.Repeat("a", size), 0, api.ErrLong)
		refuses(t, strings.Repeat("a", size)+"{{", 0, api.ErrLong)
	}
	refuses(t, "{{", 0, api.ErrShort)
	refuses(t, "{{.", 0, api.ErrShort)
	refuses(t, "ab{{.}", 2, api.ErrShort)
	refuses(t, `{{.}}{{"a}}`, 5, api.ErrShort)
	refuses(t, "{{/* a }}", 0, api.ErrShort)
	for _, wrong := range []string{"{{end}}", "{{}}", "{{?}}", "{{foo}}", "{{if}}", "{{if 1}}", `{{define ""}}`, strings.Repeat("{{if 1}}", 17), strings.Repeat("{{.}}", 1025)} {
		refuses(t, wrong+"{{ .", len(wrong), api.ErrShort)
	}
}

func TestWordsErrors(t *testing.T) { // P20.1
	tellsNot(t, "{{?}}", 2, api.ErrSyntax)
	tellsNot(t, "{{ ?}}", 3, api.ErrSyntax)
	tellsNot(t, "{{- ?}}", 4, api.ErrSyntax)
	tellsNot(t, "{{- \t\n ? -}}", 7, api.ErrSyntax)
	tellsNot(t, "a {{- .a ?}}", 9, api.ErrSyntax)
	tellsNot(t, "{{-?}}", 2, api.ErrSyntax) // no trim, but a - that is no number
	tellsNot(t, "{{-}}", 2, api.ErrSyntax)
	tellsNot(t, "{{ - }}", 3, api.ErrSyntax)
	tellsNot(t, "{{- - }}", 4, api.ErrSyntax)
	tellsNot(t, "{{- - -}}", 4, api.ErrSyntax)
	tellsNot(t, "{{- -1- -}}", 6, api.ErrSyntax)
	tellsNot(t, "{{- - - - }}", 4, api.ErrSyntax)
	tellsNot(t, "a{{.}}b{{.a \xff}}", 12, api.ErrSyntax)
	tellsNot(t, "{{.a..b}}", 2, api.ErrSyntax)
	tellsNot(t, "{{ 01 }}", 3, api.ErrSyntax)
	tellsNot(t, `{{ "a\x" }}`, 5, api.ErrSyntax)
	tellsNot(t, "{{ \"a\nb\" }}", 5, api.ErrSyntax)
	tellsNot(t, "{{. "+long()+"b}}", 4, api.ErrLong)
	tellsNot(t, `{{. "`+strings.Repeat("a", api.MaxValue+1)+`"}}`, 4, api.ErrLong)
	tellsNot(t, "{{. 9223372036854775808}}", 4, api.ErrRange)
	for _, ahead := range []string{"", "end", "else", "else if", "else .", "define", `define ""`, `define "x" 1`, "if", "if foo", "with | ", "range .a .b", "template", `template "1"`, "$x :=", "$ := ", "foo", "|", ". | foo"} { // ahead of all that is wrong with the action
		tellsNot(t, "{{"+ahead+" ?}}", 3+len(ahead), api.ErrSyntax)
		tellsNot(t, "{{- "+ahead+" 9223372036854775808 }}", 5+len(ahead), api.ErrRange)
		tellsNot(t, "a{{if 1}}{{ "+ahead+" "+long()+"b}}", 13+len(ahead), api.ErrLong)
	}
}

func TestPipesErrors(t *testing.T) { // P20.1
	for _, ahead := range []string{"{{", "{{ ", "{{\n\t", "{{- ", "{{-  ", "{{if ", "{{ if ", "{{range ", "{{- with\n", "{{$x := ", "{{$x:=", `{{template "x" `, `{{- template"x"`, "{{if 1}}{{else if ", "{{if 1}}{{- else  if ", "{{range 1}}{{else if 2}}{{else if "} {
		n := len(ahead)
		tellsNot(t, ahead+".a .b}}", n+3, api.ErrSyntax)
		tellsNot(t, ahead+". | .b -}}", n+4, api.ErrSyntax)
		tellsNot(t, ahead+"| .a}}", n, api.ErrSyntax)
		tellsNot(t, ahead+"1 || len}}", n+3, api.ErrSyntax)
		tellsNot(t, ahead+"print end}}", n+6, api.ErrSyntax)
		tellsNot(t, ahead+".a := 1}}", n+3, api.ErrSyntax)
		tellsNot(t, ahead+":= 1}}", n, api.ErrSyntax)
		tellsNot(t, ahead+"foo}}", n, api.ErrName)
		tellsNot(t, ahead+". | foo}}", n+4, api.ErrName)
		tellsNot(t, ahead+". | if}}", n+4, api.ErrName)
		tellsNot(t, ahead+". | end}}", n+4, api.ErrName)
		tellsNot(t, ahead+"len}}", n, api.ErrCount)
		tellsNot(t, ahead+". | eq 1 2}}", n+4, api.ErrCount)
		tellsNot(t, ahead+"len := 1}}", n, api.ErrCount)
		tellsNot(t, ahead+"1"+strings.Repeat("|len", 16)+"}}", n+62, api.ErrCount)
		tellsNot(t, ahead+strings.Repeat(".a", 17)+"}}", n, api.ErrDepth)
		tellsNot(t, ahead+"len $x"+strings.Repeat(".a", 17)+"}}", n+4, api.ErrDepth)
		at := strings.LastIndex(ahead, "{{") // no word is at the end
		tellsNot(t, ahead+". |}}", at, api.ErrSyntax)
		tellsNot(t, ahead+"1 | len | }}", at, api.ErrSyntax)
	}
	tellsNot(t, "{{if $x := 1}}{{end}}", 8, api.ErrSyntax)
	tellsNot(t, "{{$x := $y := 1}}", 11, api.ErrSyntax)
	tellsNot(t, "{{$x | $y := 1}}", 7, api.ErrSyntax)
	tellsNot(t, `{{"x" := 1}}`, 6, api.ErrSyntax)
	tellsNot(t, "{{$x $y := 1}}", 5, api.ErrSyntax)
	tellsNot(t, `{{$x ":=" 1}}`, 5, api.ErrSyntax) // a text, and no variable's sign
	tellsNot(t, `{{$x "|" 1}}`, 5, api.ErrSyntax)
	tellsNot(t, "{{$x}}{{$x := foo}}", 14, api.ErrName)
	for _, s := range []string{". .", "1 .", "-1 .", " . .", " -1 .", "- . .", "- -1 .", "-\t\n. .", "- . . -", "-1 . -"} { // an action's text that comes again
		place := 2 + strings.LastIndex(s, ".")
		tellsNot(t, "{{"+s+"}}{{"+s+"}}", place, api.ErrSyntax)
		tellsNot(t, "{{if 1}}{{"+s+"}}"+s, 8+place, api.ErrSyntax)
	}
	tellsNot(t, "{{End}}", 2, api.ErrName)
	tellsNot(t, "{{IF .}}", 2, api.ErrName)
	tellsNot(t, `{{Define "x"}}`, 2, api.ErrName)
	tellsNot(t, `{{Template "x"}}`, 2, api.ErrName)
	tellsNot(t, "{{elseif .}}", 2, api.ErrName)
	tellsNot(t, `{{"define" "x"}}`, 11, api.ErrSyntax)
	tellsNot(t, `{{"if" .}}`, 7, api.ErrSyntax)
}

func TestNoWordIsLeft(t *testing.T) { // P20.1
	for _, b := range blocks {
		tellsNot(t, "{{"+b.word+"}}", 0, api.ErrShort)
		tellsNot(t, "a{{- "+b.word+" -}}{{end}}", 1, api.ErrShort)
		tellsNot(t, "{{"+b.word+" 1}}{{else if}}", len(b.word)+6, api.ErrShort)
		tellsNot(t, "{{"+b.word+" 1}}{{else if 2}}a{{ else if }}", len(b.word)+20, api.ErrShort)
	}
	tellsNot(t, "{{$x :=}}", 0, api.ErrShort)
	tellsNot(t, "a{{ $x := }}", 1, api.ErrShort)
	tells(t, `{{ template "x" }}`, first(called(0, "x", ""))) // which may do without
}

func TestNoWords(t *testing.T) { // P20.1
	for _, s := range []string{"{{}}", "{{ }}", "{{\n}}", "{{- }}", "{{ -}}", "{{- -}}", "{{-\t\f\r -}}"} {
		tellsNot(t, s, 0, api.ErrSyntax)
		tellsNot(t, "a{{.}}"+s, 6, api.ErrSyntax)
		tellsNot(t, "{{if 1}}"+s+"{{end}}", 8, api.ErrSyntax)
		tellsNot(t, `{{define "x"}}`+s, 14, api.ErrSyntax)
	}
}

func TestEndWhereNoneMayStand(t *testing.T) { // P20.1
	for _, end := range []string{"{{end}}", "{{ end }}", "{{- end -}}", "{{end .}}", "{{end end}}"} {
		tellsNot(t, end, 0, api.ErrSyntax)
		tellsNot(t, "a"+end, 1, api.ErrSyntax)
		tellsNot(t, "{{.}}"+end, 5, api.ErrSyntax)
		tellsNot(t, `{{define "x"}}{{end}}`+end, 21, api.ErrSyntax)
		for _, b := range blocks {
			tellsNot(t, "{{"+b.word+" 1}}{{end}}"+end, len(b.word)+13, api.ErrSyntax)
			tellsNot(t, "{{"+b.word+" 1}}{{else if 2}}{{else if 3}}{{end}}"+end, len(b.word)+39, api.ErrSyntax) // one end for all
		}
	}
}

func TestEndWithMoreWords(t *testing.T) { // P20.1
	for _, more := range []string{" .", " end", " if", " |", " := 1", ` "x"`, " 1 2", "|len"} {
		for _, ahead := range []string{`{{define "x"}}`, "{{if 1}}", "{{with 1}}a", "{{range 1}}{{else}}", "{{if 1}}{{else if 2}}", `{{define "x"}}{{if 1}}{{end}}`} {
			tellsNot(t, ahead+"{{end"+more+"}}", len(ahead), api.ErrSyntax)
			tellsNot(t, ahead+"{{- end"+more+"}}{{end}}", len(ahead), api.ErrSyntax)
		}
	}
}

func TestElseWhereNoneMayStand(t *testing.T) { // P20.1
	for _, wrong := range []string{"{{else}}", "{{ else }}", "{{else if 1}}", "{{else if}}", "{{else if foo}}", "{{else .}}", "{{else else}}"} {
		tellsNot(t, wrong, 0, api.ErrSyntax)
		tellsNot(t, "a"+wrong+"{{end}}", 1, api.ErrSyntax)
		tellsNot(t, `{{define "x"}}`+wrong+"{{end}}", 14, api.ErrSyntax)
		tellsNot(t, `{{define "x"}}{{if 1}}{{end}}`+wrong, 29, api.ErrSyntax)
		tellsNot(t, `{{define "x"}}{{if 1}}{{else}}{{end}}`+wrong, 37, api.ErrSyntax)
		for _, b := range blocks {
			n, begin := len(b.word), "{{"+b.word+" 1}}"
			tellsNot(t, begin+"{{end}}"+wrong, n+13, api.ErrSyntax)
			tellsNot(t, begin+"{{else}}"+wrong, n+14, api.ErrSyntax) // behind an else
			tellsNot(t, begin+"a{{else}}b"+wrong+"{{end}}", n+16, api.ErrSyntax)
			tellsNot(t, begin+"{{else if 2}}{{else}}"+wrong, n+27, api.ErrSyntax)
			tellsNot(t, begin+"{{else}}{{if 1}}{{else}}{{end}}"+wrong, n+37, api.ErrSyntax)
		}
	}
}

func TestElseWithOtherWords(t *testing.T) { // P20.1
	for _, more := range []string{" .", " 1", " end", " else", " with 1", " range 1", ` "if" 1`, " If 1", " .if 1", " $if", " | if", " := 1", ` template "x"`, " print 1", " foo", " elseif 1"} {
		for _, b := range blocks {
			n := len(b.word)
			tellsNot(t, "{{"+b.word+" 1}}{{else"+more+"}}", n+6, api.ErrSyntax)
			tellsNot(t, "{{"+b.word+" 1}}a{{- else"+more+"}}b{{end}}", n+7, api.ErrSyntax)
			tellsNot(t, "{{"+b.word+" 1}}{{else if 2}}{{else"+more+"}}", n+19, api.ErrSyntax)
		}
	}
}

func TestDefineWhereNoneMayStand(t *testing.T) { // P20.1
	for _, wrong := range []string{`{{define "y"}}`, `{{define "x"}}`, "{{define}}", "{{define .}}", `{{define "1"}}`, `{{define "y" .}}`} {
		for _, ahead := range []string{`{{define "x"}}`, `{{define "x"}}a`, "{{if 1}}", "{{range 1}}a", "{{with 1}}{{else}}", "{{if 1}}{{else if 2}}", "{{if 1}}{{if 2}}{{end}}", `{{define "x"}}{{end}}{{if 1}}`, `{{define "x"}}{{if 1}}{{end}}`} {
			tellsNot(t, ahead+wrong+"{{end}}{{end}}", len(ahead), api.ErrSyntax)
			tellsNot(t, ahead+wrong, len(ahead), api.ErrSyntax)
		}
	}
}

func TestDefinesThatAreNone(t *testing.T) { // P20.1
	for _, ahead := range []string{"", "a", "{{.}}", `{{define "x"}}{{end}}`, `{{if 1}}{{end}}`} {
		n := len(ahead)
		for _, l := range []string{"", " .", " x", " $x", " 1", " |", " :=", " x \"y\"", " . \"1\"", " define", " nil"} { // no text behind it
			tellsNot(t, ahead+"{{define"+l+"}}", n, api.ErrSyntax)
			tellsNot(t, ahead+"{{ define"+l+" }}{{end}}", n, api.ErrSyntax)
		}
		for _, name := range []string{"", "1", "a b", "a.b", " x", "x ", ".", "$x", "é", `\"x\"`, `\n`, long() + "b", strings.Repeat("a", 4096)} {
			tellsNot(t, ahead+`{{define "`+name+`"}}{{end}}`, n, api.ErrName)
			tellsNot(t, ahead+`{{define "`+name+`" .}}`, n, api.ErrName) // ahead of more words
		}
		for _, more := range []string{" .", ` "y"`, " foo", " |", " :=", " end"} {
			tellsNot(t, ahead+`{{define "y"`+more+`}}{{end}}`, n, api.ErrSyntax)
			tellsNot(t, ahead+`{{define "x"`+more+`}}{{end}}`, n, api.ErrSyntax) // ahead of a second one
		}
	}
	for _, between := range []string{"", "a", "{{.}}", `{{define "y"}}{{end}}`, `{{template "x"}}`, "{{/**/}}"} {
		for _, within := range []string{"", "a", `{{template "x"}}`} {
			ahead := `{{define "x"}}` + within + "{{end}}" + between
			tellsNot(t, ahead+`{{define "x"}}{{end}}`, len(ahead), api.ErrTwice)
			tellsNot(t, ahead+`{{define "x"}}`, len(ahead), api.ErrTwice)
			tellsNot(t, ahead+`{{- define"x" -}}{{end}}`, len(ahead), api.ErrTwice)
			parsed(t, ahead+`{{define "X"}}{{end}}`)
			parsed(t, ahead+`{{define "xx"}}{{end}}`)
		}
	}
	tellsNot(t, `{{define "x"}}{{end}}{{define "y"}}{{end}}{{define "y"}}{{end}}{{define "x"}}{{end}}`, 42, api.ErrTwice)
}

func TestTemplatesThatAreNone(t *testing.T) { // P20.1
	for _, ahead := range []string{"", "a", "{{if 1}}", `{{define "x"}}`, "{{range 1}}{{else}}"} {
		n := len(ahead)
		for _, l := range []string{"", " .", " x", " $x", " 1", " | len", " := 1", " template", ` . "x"`, " nil", " foo | bar"} {
			tellsNot(t, ahead+"{{template"+l+"}}", n, api.ErrSyntax)
			tellsNot(t, ahead+"{{- template"+l+" -}}", n, api.ErrSyntax)
		}
		for _, name := range []string{"", "1", "a b", "a.b", " x", "x ", ".", "$x", "é", `\"x\"`, `\n`, long() + "b", strings.Repeat("a", 4096)} {
			tellsNot(t, ahead+`{{template "`+name+`"}}`, n, api.ErrName)
			tellsNot(t, ahead+`{{template "`+name+`" .}}`, n, api.ErrName)
			tellsNot(t, ahead+`{{template "`+name+`" foo | .}}`, n, api.ErrName) // ahead of pipes' error
			tellsNot(t, ahead+`{{template "`+name+`" |}}`, n, api.ErrName)
		}
	}
}

func TestVariablesThatAreNone(t *testing.T) { // P20.1
	for _, ahead := range []string{"", "a", "{{if 1}}", `{{define "x"}}`, "{{range 1}}{{else}}"} {
		for _, name := range []string{"$", "$x.a", "$.a", "$x.y.z"} {
			for _, l := range []string{" .", "", " foo", " 1 2", "|", " := 1"} { // its name goes ahead of pipes' error
				tellsNot(t, ahead+"{{"+name+" :="+l+"}}", len(ahead), api.ErrSyntax)
				tellsNot(t, ahead+"{{- "+name+":="+l+" -}}", len(ahead), api.ErrSyntax)
			}
		}
	}
}

func TestDeepBlocks(t *testing.T) { // P20.1, Limits
	for _, b := range blocks {
		begin, chained := "{{"+b.word+" 1}}", "{{else if 1}}"
		n, m := len(begin), len(chained)
		for _, c := range []struct {
			ahead string
			ends  int
			most  int
		}{{"", 0, 16}, {`{{define "x"}}`, 1, 15}, {"{{if 1}}", 1, 15}, {"{{with 1}}{{else}}", 1, 15}, {"{{range 1}}{{else if 2}}", 1, 14}, {"{{if 1}}{{else if 2}}{{else if 3}}", 1, 13}, {"{{if 1}}{{else if 2}}{{else}}", 1, 14}, {`{{define "x"}}{{if 1}}{{else if 2}}`, 2, 13}} {
			deep := c.ahead + strings.Repeat(begin, c.most)
			closed := deep + "a{{.}}" + strings.Repeat("{{end}}", c.most+c.ends)
			asShould(t, closed)
			parsed(t, closed)
			parsed(t, closed+begin+strings.Repeat("{{end}}", 1)) // what ended counts no more
			for _, in := range blocks {
				tellsNot(t, deep+"{{"+in.word+" 2}}", len(deep), api.ErrDepth)
				tellsNot(t, deep+"a{{- "+in.word+" 2}}{{end}}{{end}}", len(deep)+1, api.ErrDepth)
				tellsNot(t, deep+"{{"+in.word+" 2 3}}", len(deep)+len(in.word)+5, api.ErrSyntax) // pipes' error is ahead
				tellsNot(t, deep+"{{"+in.word+"}}", len(deep), api.ErrShort)
				tellsNot(t, deep+"{{else}}{{"+in.word+" 2}}", len(deep)+8, api.ErrDepth)
			}
			tellsNot(t, deep+chained, len(deep), api.ErrDepth)
			tellsNot(t, deep+"{{else if}}", len(deep), api.ErrDepth) // here it is behind
			tellsNot(t, deep+"{{else if foo}}", len(deep), api.ErrDepth)
			tellsNot(t, deep+"{{else if 1 2}}", len(deep), api.ErrDepth)
			tellsNot(t, deep+"{{else with 1}}", len(deep), api.ErrSyntax)
			tellsNot(t, deep+"{{else}}"+chained, len(deep)+8, api.ErrSyntax)
			parsed(t, deep+"{{end}}"+begin+strings.Repeat("{{end}}", c.most+c.ends))
		}
		tells16 := begin + strings.Repeat(chained, 15)
		parsed(t, tells16+"{{end}}")
		parsed(t, tells16+"{{else}}a{{end}}"+begin+"{{end}}")
		tellsNot(t, tells16+chained+"{{end}}", n+15*m, api.ErrDepth)
		tellsNot(t, tells16+"{{else}}{{"+b.word+" 1}}", n+15*m+8, api.ErrDepth)
		tellsNot(t, tells16+"{{"+b.word+" 1}}", n+15*m, api.ErrDepth)
		parsed(t, `{{define "x"}}`+begin+strings.Repeat(chained, 14)+"{{end}}{{end}}")
		tellsNot(t, `{{define "x"}}`+begin+strings.Repeat(chained, 15), 14+n+14*m, api.ErrDepth)
		parsed(t, strings.Repeat(begin+"{{end}}", 100)) // one behind the other
		parsed(t, strings.Repeat(begin+strings.Repeat(chained, 15)+"{{end}}", 10))
		tellsNot(t, strings.Repeat(begin, 17)+strings.Repeat("{{end}}", 17), 16*n, api.ErrDepth)
		tellsNot(t, strings.Repeat(begin, 1000), 16*n, api.ErrDepth)
	}
	parsed(t, strings.Repeat("{{if 1}}{{range 2}}{{with 3}}{{else}}{{if 4}}", 4)+strings.Repeat("{{end}}", 16))
	tellsNot(t, strings.Repeat("{{if 1}}{{range 2}}{{with 3}}{{else}}{{if 4}}", 4)+"{{with 1}}", 4*45, api.ErrDepth)
}

func TestManyNodes(t *testing.T) { // P20.1, Limits
	for _, c := range []struct {
		ahead string
		nodes int
	}{
		{strings.Repeat("{{.}}", 1024), 1024},
		{strings.Repeat("{{.}}a", 512), 1024},
		{strings.Repeat("{{.}}a{{/**/}}b", 512), 1024},
		{strings.Repeat("{{$x:=1}}", 1024), 1024},
		{strings.Repeat("{{if 1}}{{end}}", 1024), 1024},
		{strings.Repeat("{{with 1}}a{{end}}", 512), 1024},
		{strings.Repeat("{{range 1}}{{else}}a{{end}}", 512), 1024},
		{strings.Repeat("{{if 1}}{{else if 2}}{{end}}", 512), 1024},
		{strings.Repeat(`{{template"x"}}`, 1024), 1024},
		{`{{define "x"}}` + strings.Repeat("{{.}}", 1023) + "{{end}}a", 1024},
		{`a{{define "x"}}` + strings.Repeat("{{.}}", 1023) + "{{end}}b", 1024}, // two texts, one node
		{`{{define "x"}}` + strings.Repeat("{{.}}", 500) + `{{end}}{{define "y"}}` + strings.Repeat("{{.}}b", 262) + "{{end}}", 1024},
		{strings.Repeat("{{.}}", 1008) + strings.Repeat("{{if 1}}", 16) + strings.Repeat("{{end}}", 16), 1024},
	} {
		made := 0
		for _, d := range parsed(t, c.ahead) {
			made += parse.Size(d.Body)
		}
		if made != c.nodes {
			t.Errorf("P20.1: Parse of %.60q makes %d nodes, not %d", c.ahead, made, c.nodes)
		}
		n := len(c.ahead)
		for _, more := range []string{"{{.}}", "{{if 1}}{{end}}", "{{range 1}}", "{{with 1}}", "{{$x := 1}}", `{{template "x"}}`} {
			tellsNot(t, c.ahead+more, n, api.ErrCount)
		}
		for _, behind := range []string{"{{foo}}", "{{. .}}", "{{|}}", "{{if}}", "{{range foo}}", "{{with 1 2}}", "{{$x :=}}", "{{$ := 1}}", "{{$x.a := foo}}", "{{template}}", "{{template .}}", `{{template "1"}}`, `{{template "x" foo}}`} { // these would be behind it
			tellsNot(t, c.ahead+behind, n, api.ErrCount)
		}
		for _, ahead := range []string{"{{end}}", "{{else}}", "{{else if 1}}", "{{}}", "{{define}}"} {
			tellsNot(t, c.ahead+ahead, n, api.ErrSyntax)
		}
		tellsNot(t, c.ahead+"{{. ?}}", n+4, api.ErrSyntax)
		tellsNot(t, c.ahead+`{{define "z"}}a{{end}}`, n+14, api.ErrCount)
		tellsNot(t, c.ahead+`{{define "z"}}{{end}}{{.}}`, n+21, api.ErrCount)
		tellsNot(t, c.ahead+`{{define "1"}}`, n, api.ErrName)
		parsed(t, c.ahead+`{{define "z"}}{{end}}{{/**/}}`) // which is no node
	}
	most := strings.Repeat("{{.}}", 1023)
	parsed(t, most+"a")
	parsed(t, most+`a{{define "x"}}{{end}}b{{/**/}}{{define "y"}}{{end}}c`)
	tellsNot(t, most+`a{{define "x"}}b{{end}}c`, 5130, api.ErrCount)
	tellsNot(t, most+"a{{.}}", 5116, api.ErrCount)
	tellsNot(t, most+"{{.}}a", 5120, api.ErrCount)
	tellsNot(t, most+"{{.}}{{- /**/ -}} a", 5133, api.ErrCount) // a text's place is its own
	tellsNot(t, most+"{{.}} {{.}}", 5120, api.ErrCount)
	tellsNot(t, most+"{{if 1}}a{{end}}", 5123, api.ErrCount)
	tellsNot(t, most+"{{if 1}}{{else}}a{{end}}", 5131, api.ErrCount)
	tellsNot(t, most+"{{if 1}}{{else if 1}}{{end}}", 5123, api.ErrCount)
	tellsNot(t, most+"{{if 1}}{{else if}}", 5123, api.ErrCount)
	tellsNot(t, most+"{{if 1}}{{else if foo}}", 5123, api.ErrCount)
	tellsNot(t, most+"{{if 1}}{{else foo}}", 5123, api.ErrSyntax)
	tellsNot(t, most+"{{if 1}}{{end .}}", 5123, api.ErrSyntax)
	tellsNot(t, most+`{{if 1}}{{define "x"}}`, 5123, api.ErrSyntax)
	tellsNot(t, most+"{{if 1}}{{if 1}}", 5123, api.ErrCount)
	deep := strings.Repeat("{{.}}", 1008) + strings.Repeat("{{if 1}}", 16)
	tellsNot(t, deep+"{{if 1}}", 5168, api.ErrCount)      // ahead of ErrDepth
	tellsNot(t, deep+"{{else if 1}}", 5168, api.ErrDepth) // of an else if behind it
	deep = strings.Repeat("{{.}}", 1007) + strings.Repeat("{{if 1}}", 16)
	tellsNot(t, deep+"{{if 1}}", 5163, api.ErrDepth)
	tellsNot(t, deep+"{{.}}{{.}}", 5168, api.ErrCount)
	tellsNot(t, strings.Repeat("{{.}}", 3000), 5120, api.ErrCount)
	tellsNot(t, `{{define "x"}}`+strings.Repeat("a{{.}}", 1000), 14+512*6, api.ErrCount)
}

func TestEndsThatLack(t *testing.T) { // P20.1
	for _, s := range []string{"{{if 1}}", "{{range 1}}a", "{{with 1}}{{else}}", "{{if 1}}{{else if 2}}", "{{if 1}}{{else if 2}}{{else}}b", "{{if 1}}{{if 2}}{{end}}", "{{if 1}}{{else}}{{range 2}}{{end}} ", strings.Repeat("{{with 1}}", 16), strings.Repeat("{{with 1}}", 16) + strings.Repeat("{{end}}", 15),
		`{{define "x"}}`, `{{define "x"}}a`, `{{define "x"}}{{if 1}}`, `{{define "x"}}{{if 1}}{{end}}`, `{{define "x"}}{{end}}{{if 1}}`, `{{define "x"}}{{end}}{{define "y"}}`, "{{if 1}}{{end}}{{if 2}}{{/* {{end}} */}}", `{{if "{{end}}"}}`, "{{if 1 -}}  "} {
		tellsNot(t, s, len(s), api.ErrShort)
	}
	tellsNot(t, "{{if 1}}{{foo}}", 10, api.ErrName) // which is told ahead
}

func TestSeveralErrors(t *testing.T) { // P20.1, P4
	tellsNot(t, "{{foo}}{{end}}", 2, api.ErrName)
	tellsNot(t, "{{end}}{{foo}}", 0, api.ErrSyntax)
	tellsNot(t, "{{if}}{{?}}", 0, api.ErrShort)
	tellsNot(t, "{{?}}{{if}}", 2, api.ErrSyntax)
	tellsNot(t, `{{define "1"}}{{define}}`, 0, api.ErrName)
	tellsNot(t, `{{define}}{{define "1"}}`, 0, api.ErrSyntax)
	tellsNot(t, `{{template "1"}}{{$ := 1}}`, 0, api.ErrName)
	tellsNot(t, `{{$ := 1}}{{template "1"}}`, 0, api.ErrSyntax)
	tellsNot(t, `{{if 1}}{{define "1"}}{{?}}`, 8, api.ErrSyntax)
	tellsNot(t, `{{define "1" "2"}}`, 0, api.ErrName)
	tellsNot(t, `{{define "x" ?}}`, 13, api.ErrSyntax)
	tellsNot(t, `{{if foo ?}}`, 9, api.ErrSyntax)
	tellsNot(t, `{{if foo}}{{else}}{{else}}`, 5, api.ErrName)
	tellsNot(t, `{{if 1}}{{else}}{{else foo ?}}`, 27, api.ErrSyntax)
	tellsNot(t, `{{else foo}}`, 0, api.ErrSyntax)
}
