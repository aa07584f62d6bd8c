package parse_test

import (
	"fmt"
	"math/rand"
	"strings"
	"testing"
	library "text/template/parse"

	"muslin/api"
	"muslin/parse"
	"muslin/pipes"
)

// everyRow tells of each row of at most so many of the pieces.
func everyRow(pieces []string, most int, tell func(s string)) {
	var grow func(ahead string, left int)
	grow = func(ahead string, left int) {
		tell(ahead)
		if left == 0 {
			return
		}
		for _, piece := range pieces {
			grow(ahead+piece, left-1)
		}
	}
	grow("", most)
}

func TestAllSmallTemplates(t *testing.T) { // P20.1, P20.2
	held := func(s string) { asShould(t, s) }
	everyRow([]string{"a", "{{.}}", "{{if 1}}", "{{else}}", "{{else if 2}}", "{{end}}", `{{define "x"}}`, "{{/**/}}", "{{$x := 1}}", `{{template "x"}}`, "{{foo}}"}, 4, held)
	everyRow([]string{"a", "{{with 1}}", "{{else}}", "{{else if 2}}", "{{end}}", `{{define "x"}}`}, 6, held)
	everyRow([]string{" ", "{{- range 1 -}}", "{{- else -}}", "{{end -}}", `{{- define "x"}}`, `{{define "y" -}}`, "b "}, 5, held)
	everyRow([]string{"a", "{{if 1}}", "{{end}}", "{{else if 2}}"}, 8, held)
}

func TestAllSmallActions(t *testing.T) { // P20.1
	pieces := []string{" if", " end", " else", " define", " template", ` "x"`, ` "1"`, " .", " $x", " $", " :=", " |", " len", " range", " with", " ?"}
	for _, around := range [][2]string{{"{{", "}}"}, {"{{if 1}}{{-", "}}{{end}}"}, {`{{define "x"}}{{`, " -}}{{end}}"}, {"{{with 1}}{{else}}{{", "}}"}, {`{{define "x"}}{{end}}{{`, "}}"}} {
		everyRow(pieces, 3, func(s string) { asShould(t, around[0]+s+around[1]) })
	}
}

func TestEveryOctetInEachPlace(t *testing.T) { // P20.1
	for _, s := range []string{"a {{- if .a -}} b{{else if $x}}c{{end}}", `{{define "x"}}{{$y := 1 | len}}{{end}}`, `{{with 1}}{{template "x" .}}{{else}}{{/**/}}{{end}}`} {
		for at := range len(s) {
			asShould(t, s[:at])
			asShould(t, s[at:])
			asShould(t, s[:at]+s[at+1:])
			for c := range 256 {
				octet := string([]byte{byte(c)})
				asShould(t, s[:at]+octet+s[at:])
				asShould(t, s[:at]+octet+s[at+1:])
			}
		}
	}
}

// grown is a row of pieces, some of which are blocks that deep within each other.
func grown(chance *rand.Rand, deep int) string {
	any := func(l ...string) string { return l[chance.Intn(len(l))] }
	var b strings.Builder
	for range chance.Intn(5) {
		if deep == 0 || chance.Intn(2) == 0 {
			b.WriteString(any("a", " ", "{ ", "{{.}}", "{{- .a | len }}", "{{$x := 1}}", `{{template "x" .}}`, `{{ template "y" -}}`, "{{/* {{ */}}"))
			continue
		}
		b.WriteString(any("{{if 1}}", "{{- range .}}", "{{with $x -}}") + grown(chance, deep-1))
		for range chance.Intn(3) {
			b.WriteString(any("{{else if 2}}", "{{- else if . -}}") + grown(chance, deep-1))
		}
		if chance.Intn(2) == 0 {
			b.WriteString(any("{{else}}", "{{- else }}") + grown(chance, deep-1))
		}
		b.WriteString(any("{{end}}", "{{- end -}}"))
	}
	return b.String()
}

func TestGrownTemplates(t *testing.T) { // P20.1
	chance := rand.New(rand.NewSource(20))
	taken, refused := 0, 0
	for range 1500 {
		s := grown(chance, 3)
		for i := range chance.Intn(4) {
			s += fmt.Sprintf(`{{define "x%d"}}`, i) + grown(chance, 2) + "{{end}}" + grown(chance, 2)
		}
		asShould(t, s)
		if _, _, err := parse.Parse(s); err == api.OK {
			taken++
		} else {
			refused++ // too many nodes, or too long
		}
		parts := strings.SplitAfter(s, "}}")
		at, other := chance.Intn(len(parts)), chance.Intn(len(parts))
		asShould(t, strings.Join(parts[:at], "")+strings.Join(parts[at+1:], "")) // without one
		parts[at] += parts[other]                                                // with one twice
		asShould(t, strings.Join(parts, ""))
	}
	if taken < 100*refused {
		t.Errorf("of the templates that should be taken %d are refused, and %d not", refused, taken)
	}
}

// drawn is what l is, as a text.
func drawn(l []api.Node) string {
	var b strings.Builder
	for _, n := range l {
		switch n.Kind {
		case 1:
			fmt.Fprintf(&b, "%q", n.Text)
		case 7:
			fmt.Fprintf(&b, "($%s := %s)", n.Name, pipes.Print(n.Pipe))
		case 6:
			fmt.Fprintf(&b, "(call %s %s)", n.Name, pipes.Print(n.Pipe))
		default:
			fmt.Fprintf(&b, "(%d %s|%s|%s)", n.Kind, pipes.Print(n.Pipe), drawn(n.Body), drawn(n.Else))
		}
	}
	return b.String()
}

// drawnOfLibrary is what Go's library makes of a list, as drawn has it, texts beside each other being one.
func drawnOfLibrary(l *library.ListNode) string {
	if l == nil {
		return ""
	}
	var b strings.Builder
	text := ""
	put := func(s string) {
		if text != "" {
			fmt.Fprintf(&b, "%q", text)
		}
		text = ""
		b.WriteString(s)
	}
	block := func(kind int, n library.BranchNode) string {
		return fmt.Sprintf("(%d %s|%s|%s)", kind, n.Pipe, drawnOfLibrary(n.List), drawnOfLibrary(n.ElseList))
	}
	for _, n := range l.Nodes {
		switch n := n.(type) {
		case *library.TextNode:
			text += string(n.Text)
		case *library.ActionNode:
			if len(n.Pipe.Decl) > 0 {
				put(fmt.Sprintf("(%s)", n.Pipe))
			} else {
				put(fmt.Sprintf("(2 %s||)", n.Pipe))
			}
		case *library.IfNode:
			put(block(3, n.BranchNode))
		case *library.RangeNode:
			put(block(4, n.BranchNode))
		case *library.WithNode:
			put(block(5, n.BranchNode))
		case *library.TemplateNode:
			pipe := ""
			if n.Pipe != nil {
				pipe = n.Pipe.String()
			}
			put(fmt.Sprintf("(call %s %s)", n.Name, pipe))
		}
	}
	put("")
	return b.String()
}

func TestAsTheLibraryReads(t *testing.T) { // P20.1: where both read a template, they read it alike
	read, both := 0, 0
	everyRow([]string{"a", "{{.a}}", "{{if .b}}", "{{range .c}}", "{{with .d}}", "{{else}}", "{{else if .e}}", "{{end}}", `{{define "x"}}`, `{{template "x" .}}`, "{{$y := 1}}"}, 5, func(s string) {
		read++
		trees := map[string]*library.Tree{}
		root := library.New("main")
		if _, err := root.Parse(s, "", "", trees); err != nil {
			return
		}
		got, at, err := parse.Parse(s)
		if err == api.ErrTwice { // the library takes a second one of which one is empty
			return
		}
		if at != len(s) || err != api.OK {
			t.Fatalf("P20.1: Parse of %q is refused with %d at %d", s, err, at)
		}
		both++
		want := drawnOfLibrary(root.Root)
		if len(got) != 1+strings.Count(s, "{{define") || drawn(got[0].Body) != want {
			t.Fatalf("P20.1: Parse of %q is %s, not %s", s, drawn(got[0].Body), want)
		}
		for _, d := range got[1:] {
			if drawn(d.Body) != drawnOfLibrary(trees[d.Name].Root) {
				t.Fatalf("P20.1: Parse of %q is, of %s, %s, not %s", s, d.Name, drawn(d.Body), drawnOfLibrary(trees[d.Name].Root))
			}
		}
	})
	if both < 1000 {
		t.Errorf("just %d of %d templates were read by both", both, read)
	}
}
