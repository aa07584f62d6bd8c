package parse_test

import (
	"fmt"
	"math"
	"reflect"
	"strings"
	"sync"
	"testing"

	"muslin/api"
	"muslin/parse"
)

// manyTexts are templates, some of which are none.
func manyTexts() []string {
	return []string{
		"", "a", "a{{/**/}}b", "{{.}}", "{{.a.b}}", "a{{- .a -}}b", `{{"text" | print $x.y.z 7 true nil .a}}`, "{{$x := .a}}", "{{$abc:=$x.d}}",
		`{{template "name"}}`, `{{template "x" .a.b | len}}`, "{{if .a}}b{{end}}", "{{range .a}}b{{else}}c{{end}}", "{{with .a}}{{.}}{{else if .b}}c{{else if .d}}e{{else}}f{{end}}",
		`a{{define "x"}}b{{end}}c{{define "name"}}d{{if .}}e{{end}}{{end}}f`, `{{define "x"}}{{end}}`, `a{{define "x"}}{{end}}b{{define "y"}}{{end}}c`,
		strings.Repeat("{{if .a}}", 16) + "b" + strings.Repeat("{{end}}", 16), strings.Repeat("ab{{.cd}}", 500), every(),
		"{{", "{{}}", "{{end}}", "{{else}}", "{{?}}", "{{foo}}", "{{if}}", "{{if 1}}", "{{define}}", `{{define "1"}}`, `{{define "x"}}{{end}}{{define "x"}}`, strings.Repeat("{{if 1}}", 17), strings.Repeat("{{.}}", 1025), strings.Repeat("a", api.MaxText+1),
	}
}

func TestAnswersAreNewMemory(t *testing.T) { // P20.3, P2
	for _, s := range manyTexts() {
		one, _, _ := parse.Parse(s)
		other, _, _ := parse.Parse(s)
		lies := append(append(spans(one), spans(other)...), textSpan(s))
		if both := shared(lies); both != "" {
			t.Errorf("P20.3: of two answers of %.80q share memory: %s", s, both)
		}
	}
}

func TestListsOfAnAnswerAreApart(t *testing.T) { // P20.3, P2
	s := `a{{print .a .b | print $x.a}}{{if .}}b{{.}}{{else if .c}}d{{else}}e{{end}}{{define "x"}}f{{range .g}}h{{end}}{{end}}i{{define "y"}}j{{end}}`
	got, want := parsed(t, s), parsed(t, s)
	more := func(l []api.Node) []api.Node { return append(l, api.Node{Kind: 9})[:len(l)] }
	lists := func(l []api.Node) {
		everyNode(l, func(n *api.Node) {
			n.Body, n.Else = more(n.Body), more(n.Else)
			n.Pipe = append(n.Pipe, api.Call{Name: "more"})[:len(n.Pipe)]
			for i := range n.Pipe {
				n.Pipe[i].Args = append(n.Pipe[i].Args, api.Arg{Kind: 9})[:len(n.Pipe[i].Args)]
			}
		})
	}
	for i := range got {
		lists(got[i].Body)
		got[i].Body = more(got[i].Body)
	}
	if got = append(got, api.Def{Name: "more"})[:len(got)]; !reflect.DeepEqual(filled(got), filled(want)) {
		t.Errorf("P20.3: lists of an answer run into each other: %s", brief(got))
	}
	got[0].Name = "changed"
	for _, d := range got {
		everyNode(d.Body, func(n *api.Node) { *n = api.Node{Kind: 9} })
	}
	if !reflect.DeepEqual(filled(parsed(t, s)), filled(want)) {
		t.Error("P20.3: an answer is kept")
	}
}

func TestArgumentsAreNotChangedAndNotKept(t *testing.T) { // P20.3, P2
	for _, s := range manyTexts() {
		octets, handed := fresh(s)
		got, at, err := parse.Parse(handed)
		if handed != s {
			t.Errorf("P20.3: Parse changes %.80q", s)
		}
		for i := range octets {
			octets[i] = '#'
		}
		want, wantAt, wantErr := parse.Parse(s)
		if !reflect.DeepEqual(filled(got), filled(want)) || at != wantAt || err != wantErr {
			t.Errorf("P20.3: an answer of %.80q changes with what was handed in", s)
		}
		before := filled(want)
		parse.Same(want, before)
		parse.Same(before, want)
		for _, d := range want {
			parse.Size(d.Body)
			parse.Depth(d.Body)
		}
		if !reflect.DeepEqual(filled(want), before) || !reflect.DeepEqual(filled(before), before) {
			t.Errorf("P20.3: what %.80q is was changed", s)
		}
	}
	odd := []api.Def{{Name: "a", Body: []api.Node{{Kind: 9, At: -1, Esc: 5, Unit: 7, Body: []api.Node{{Kind: -9, Esc: 3}}}}}}
	before := filled(odd)
	parse.Same(odd, before)
	parse.Size(odd[0].Body)
	parse.Depth(odd[0].Body)
	if !reflect.DeepEqual(filled(odd), before) {
		t.Error("P20.3: what no call made was changed")
	}
}

func TestNothingElseBesideAnError(t *testing.T) { // P4
	for _, s := range manyTexts() {
		if got, at, err := parse.Parse(s); err != api.OK && len(got) != 0 || at < 0 || at > len(s) || err == api.OK && at != len(s) {
			t.Errorf("P4: Parse of %.80q is %s, %d, %d", s, brief(got), at, err)
		}
	}
}

func TestFieldsWithoutMeaningAreZero(t *testing.T) { // P4, P20.1
	for _, s := range manyTexts() {
		got, _, _ := parse.Parse(s)
		for i, d := range got {
			if (d.Name == "") != (i == 0) {
				t.Errorf("P20.1: template %d of %.80q has the name %q", i, s, d.Name)
			}
			everyNode(d.Body, func(n *api.Node) {
				want := api.Node{Kind: n.Kind, At: n.At}
				switch n.Kind {
				case 1:
					want.Text = n.Text
				case 2:
					want.Pipe = n.Pipe
				case 3, 4, 5:
					want.Pipe, want.Body, want.Else = n.Pipe, n.Body, n.Else
				case 6, 7:
					want.Pipe, want.Name = n.Pipe, n.Name
				}
				if !reflect.DeepEqual(movedNodes([]api.Node{*n}, 0), movedNodes([]api.Node{want}, 0)) {
					t.Errorf("P4: a node of %.80q has more than it should: %s", s, brief(*n))
				}
			})
		}
	}
}

func TestEveryCallAnswers(t *testing.T) { // P1
	for _, piece := range []string{"{{", "}}", "{{if 1}}", "{{else}}", "{{end}}", `{{define "x"}}`, "{{else if 1}}", "{{.}}", "a", "\x00", "\"", "{{/*", "{{\"", "{{- ", " -}}", "{"} {
		for _, times := range []int{1, 2, 100, 2000, 1 << 15, 1 << 20} {
			parse.Parse(strings.Repeat(piece, times))
		}
	}
	for _, n := range []int{math.MinInt, -1, 0, 3, math.MaxInt} {
		odd := []api.Node{{Kind: n, At: n, Esc: n, Unit: n, Pipe: []api.Call{{Args: []api.Arg{{Kind: n, Int: n}}}}, Body: []api.Node{{}}, Else: []api.Node{{Kind: n}}}}
		sized(t, odd, 3, 2)
		alike(t, []api.Def{{Body: odd}}, []api.Def{{Body: odd}}, true)
	}
}

func TestAnswersHangOnArgumentsAlone(t *testing.T) { // P3
	tell := func() string {
		var b strings.Builder
		for _, s := range manyTexts() {
			l, at, err := parse.Parse(s)
			fmt.Fprintln(&b, l, at, err, parse.Same(l, great()), parse.Same(l, l))
			for _, d := range l {
				fmt.Fprintln(&b, parse.Size(d.Body), parse.Depth(d.Body))
			}
		}
		return b.String()
	}
	want := tell()
	got := make([]string, 8)
	var wait sync.WaitGroup
	for i := range got {
		wait.Go(func() { got[i] = tell() })
	}
	wait.Wait()
	for _, g := range got {
		if g != want {
			t.Error("P3: the calls answer otherwise from run to run")
		}
	}
}
