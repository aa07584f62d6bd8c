package parse_test

import (
	"math"
	"slices"
	"testing"

	"muslin/api"
	"muslin/parse"
)

// alike tells whether Same holds, or does not, both ways round, and with nil or empty lists.
func alike(t *testing.T, a []api.Def, b []api.Def, want bool) {
	t.Helper()
	if parse.Same(a, b) != want || parse.Same(b, a) != want {
		t.Errorf("P20.2: Same of %s and %s is not %t", brief(a), brief(b), want)
	}
	if parse.Same(a, filled(b)) != want || parse.Same(filled(b), a) != want {
		t.Errorf("P20.2: Same of %s and %s, whose lists are not nil, is not %t", brief(a), brief(b), want)
	}
}

// great is a template that has all that there may be.
func great() []api.Def {
	return []api.Def{
		first(
			text(0, "a"), action(1, `print .a.b $x.c 7 "d" true false nil | default 1`), variable(9, "y", "len ."),
			otherwise(when(20, ".", text(25, "b"), otherwise(each(26, "$.a"), called(30, "z", "1"))), with(40, ".c", text(44, "d")), action(50, "2")),
		),
		named("z", text(70, "e"), otherwise(when(80, "1"), otherwise(when(85, "2", action(90, "3")), text(99, "f")))),
		named("v"),
	}
}

// everyNode tells change of each node in l, the deep ones too.
func everyNode(l []api.Node, change func(n *api.Node)) {
	for i := range l {
		change(&l[i])
		everyNode(l[i].Body, change)
		everyNode(l[i].Else, change)
	}
}

// everyPlace tells change of each node of great, each time in another copy, and hands that to then.
func everyPlace(change func(n *api.Node), then func(l []api.Def)) {
	count := 0
	for _, d := range great() {
		size, _ := measured(d.Body)
		count += size
	}
	for at := range count {
		l, seen := great(), 0
		for _, d := range l {
			everyNode(d.Body, func(n *api.Node) {
				if seen == at {
					change(n)
				}
				seen++
			})
		}
		then(l)
	}
}

func TestSameButForPlacesAndWhatIsInferred(t *testing.T) { // P20.2
	alike(t, great(), great(), true)
	alike(t, nil, nil, true)
	alike(t, nil, []api.Def{}, true)
	for _, change := range []func(n *api.Node){
		func(n *api.Node) { n.At++ },
		func(n *api.Node) { n.At = math.MinInt },
		func(n *api.Node) { n.Esc = 7 },
		func(n *api.Node) { n.Esc = math.MaxInt },
		func(n *api.Node) { n.Unit = 3 },
		func(n *api.Node) { n.Unit = -1 },
		func(n *api.Node) { n.At, n.Esc, n.Unit = -1, -1, -1 },
		func(n *api.Node) {},
	} {
		everyPlace(change, func(l []api.Def) { alike(t, l, great(), true) })
	}
	alike(t, parsed(t, "a {{- .b -}} c{{if 1}}{{end}}"), parsed(t, "a{{/* x */}}{{ .b }}c{{ if\n1}}{{else}}{{ end }}"), true)
	alike(t, parsed(t, "{{if 1}}a{{else if 2}}b{{end}}"), parsed(t, "{{if 1}}a{{else}}{{if 2}}b{{end}}{{end}}"), true)
	alike(t, parsed(t, `a{{define "x"}}{{end}}b`), parsed(t, `{{define "x"}}{{end}}ab`), true)
}

func TestSameOfAnotherField(t *testing.T) { // P20.2
	for _, change := range []func(n *api.Node){
		func(n *api.Node) { n.Kind++ },
		func(n *api.Node) { n.Kind = -n.Kind },
		func(n *api.Node) { n.Text += "a" },
		func(n *api.Node) { n.Text += "\x00" },
		func(n *api.Node) { n.Name += "a" },
		func(n *api.Node) { n.Name += " " },
		func(n *api.Node) { n.Pipe = append(n.Pipe, api.Call{}) },
		func(n *api.Node) { n.Pipe = append(n.Pipe, piped("1")...) },
		func(n *api.Node) { n.Body = append(n.Body, api.Node{}) },
		func(n *api.Node) { n.Body = append(n.Body, text(0, "a")) },
		func(n *api.Node) { n.Body = append([]api.Node{text(0, "a")}, n.Body...) },
		func(n *api.Node) { n.Else = append(n.Else, api.Node{}) },
		func(n *api.Node) { n.Else = append(n.Else, text(0, "a")) },
		func(n *api.Node) { n.Else = append([]api.Node{text(0, "a")}, n.Else...) },
	} {
		everyPlace(change, func(l []api.Def) { alike(t, l, great(), false) })
	}
	for _, cut := range []func(n *api.Node) bool{ // these, where there is something
		func(n *api.Node) bool { had := n.Text != ""; n.Text = ""; return had },
		func(n *api.Node) bool { had := n.Name != ""; n.Name = ""; return had },
		func(n *api.Node) bool { had := n.Pipe != nil; n.Pipe = nil; return had },
		func(n *api.Node) bool { had := n.Body != nil; n.Body = nil; return had },
		func(n *api.Node) bool { had := n.Else != nil; n.Else = nil; return had },
		func(n *api.Node) bool {
			n.Body, n.Else = n.Else, n.Body
			return len(n.Body)+len(n.Else) > 0
		},
		func(n *api.Node) bool { n.Text, n.Name = n.Name, n.Text; return n.Text+n.Name != "" },
		func(n *api.Node) bool {
			if len(n.Pipe) == 0 {
				return false
			}
			n.Pipe[0].Args[0].Kind++
			return true
		},
		func(n *api.Node) bool {
			if len(n.Pipe) == 0 {
				return false
			}
			n.Pipe[len(n.Pipe)-1].Name += "x"
			return true
		},
	} {
		had := false
		everyPlace(func(n *api.Node) { had = cut(n) }, func(l []api.Def) { alike(t, l, great(), !had) })
	}
}

func TestSameOfOtherLists(t *testing.T) { // P20.2
	for i := range great() {
		renamed := great()
		renamed[i].Name += "x"
		alike(t, renamed, great(), false)
		alike(t, slices.Delete(great(), i, i+1), great(), false)
		alike(t, slices.Insert(great(), i, api.Def{}), great(), false)
		emptied := great()
		emptied[i].Body = nil
		alike(t, emptied, great(), great()[i].Body == nil)
		if i > 0 {
			turned := great()
			turned[i], turned[i-1] = turned[i-1], turned[i]
			alike(t, turned, great(), false)
		}
		for j := range great()[i].Body {
			less := great()
			less[i].Body = slices.Delete(less[i].Body, j, j+1)
			alike(t, less, great(), false)
			if j > 0 {
				turned := great()
				turned[i].Body[j], turned[i].Body[j-1] = turned[i].Body[j-1], turned[i].Body[j]
				alike(t, turned, great(), false)
			}
		}
	}
	alike(t, nil, []api.Def{{}}, false)
	alike(t, []api.Def{{}}, []api.Def{{}, {}}, false)
	alike(t, great(), append(great(), api.Def{}), false)
	alike(t, []api.Def{first(text(0, "ab"))}, []api.Def{first(text(0, "a"), text(1, "b"))}, false)
	alike(t, []api.Def{first(text(0, "a"))}, []api.Def{named("a")}, false)
	alike(t, []api.Def{first(when(0, "1", text(0, "a"), text(0, "b")))}, []api.Def{first(when(0, "1", text(0, "b"), text(0, "a")))}, false)
	alike(t, []api.Def{first(when(0, "1", text(0, "a")))}, []api.Def{first(when(0, "1"), text(0, "a"))}, false)
	alike(t, []api.Def{first(when(0, "1", text(0, "a")))}, []api.Def{first(otherwise(when(0, "1"), text(0, "a")))}, false)
	alike(t, []api.Def{first(called(0, "x", ""))}, []api.Def{first(called(0, "x", "nil"))}, false)
}

func TestSameOfTemplatesThatNoCallMade(t *testing.T) { // P20.2, P1
	kinds := []int{math.MinInt, -1, 0, 1, 7, 8, math.MaxInt}
	for _, kind := range kinds {
		for _, other := range kinds {
			odd := []api.Def{{Name: every(), Body: []api.Node{{Kind: kind, Name: "\xff", Text: "}}", Pipe: []api.Call{{Name: "foo"}}, Body: []api.Node{{Kind: kind}}, Else: []api.Node{{Kind: other}}}}}}
			again := filled(odd)
			alike(t, odd, again, true)
			again[0].Body[0].Else[0].Kind = kind
			alike(t, odd, again, kind == other)
		}
	}
}

// sized tells whether Size and Depth of l are such.
func sized(t *testing.T, l []api.Node, size int, depth int) {
	t.Helper()
	if parse.Size(l) != size || parse.Depth(l) != depth {
		t.Errorf("P20.2: of %s Size is %d and Depth %d, not %d and %d", brief(l), parse.Size(l), parse.Depth(l), size, depth)
	}
}

func TestSizeAndDepth(t *testing.T) { // P20.2
	sized(t, nil, 0, 0)
	sized(t, []api.Node{}, 0, 0)
	for kind := -1; kind <= 9; kind++ {
		one, none := api.Node{Kind: kind}, []api.Node{}
		sized(t, []api.Node{one}, 1, 1)
		sized(t, []api.Node{one, one, one}, 3, 1)
		sized(t, []api.Node{{Kind: kind, Body: none, Else: none}}, 1, 1)
		sized(t, []api.Node{{Kind: kind, Body: []api.Node{one}}}, 2, 2)
		sized(t, []api.Node{{Kind: kind, Else: []api.Node{one}}}, 2, 2)
		sized(t, []api.Node{{Kind: kind, Body: []api.Node{one, one}, Else: []api.Node{one}}}, 4, 2)
		sized(t, []api.Node{{Kind: kind, Body: []api.Node{one}, Else: []api.Node{{Body: []api.Node{one}}}}}, 4, 3)
		sized(t, []api.Node{{Kind: kind, Body: []api.Node{{Else: []api.Node{one}}}, Else: []api.Node{one}}}, 4, 3)
		sized(t, []api.Node{{Kind: kind, Else: []api.Node{{Else: []api.Node{{Else: []api.Node{one, one}}}}}}}, 5, 4)
		sized(t, []api.Node{one, {Body: []api.Node{one}}, one}, 4, 2)
		sized(t, []api.Node{{Body: []api.Node{{Body: []api.Node{one}}}}, {Body: []api.Node{one}}, one}, 6, 3)
		sized(t, []api.Node{one, {Body: []api.Node{one}}, {Body: []api.Node{{Body: []api.Node{one}}}}}, 6, 3)
	}
	sized(t, parsed(t, "a{{.}}b")[0].Body, 3, 1)
	sized(t, parsed(t, "{{if 1}}{{end}}")[0].Body, 1, 1)
	sized(t, parsed(t, "{{if 1}}a{{end}}")[0].Body, 2, 2)
	sized(t, parsed(t, "{{if 1}}{{else}}a{{end}}")[0].Body, 2, 2)
	sized(t, parsed(t, "{{if 1}}{{else if 2}}{{else if 3}}{{end}}")[0].Body, 3, 3)
	sized(t, parsed(t, `{{define "x"}}{{if 1}}a{{end}}{{end}}b`)[0].Body, 1, 1)
	sized(t, parsed(t, `{{define "x"}}{{if 1}}a{{end}}{{end}}b`)[1].Body, 2, 2)
	sized(t, great()[0].Body, 10, 3)
	sized(t, great()[1].Body, 5, 3)
	sized(t, great()[2].Body, 0, 0)
}

func TestSizeAndDepthOfGreatLists(t *testing.T) { // P20.2, P1, Limits
	const many = 1 << 17
	sized(t, slices.Repeat([]api.Node{{Kind: 1}}, many), many, 1)
	sized(t, []api.Node{{Body: slices.Repeat([]api.Node{{Kind: 1}}, many), Else: slices.Repeat([]api.Node{{Kind: 2}}, many)}}, 2*many+1, 2)
	for _, levels := range []int{17, 18, 1000, 1 << 15, 1 << 16} {
		var inBody, inElse, inBoth []api.Node
		for level := range levels {
			inBody = []api.Node{{Kind: 3, Body: inBody}}
			inElse = []api.Node{{Kind: 3, Else: inElse}}
			if level%2 == 0 {
				inBoth = []api.Node{{Kind: 5, Body: inBoth}, {Kind: 1}}
			} else {
				inBoth = []api.Node{{Kind: 5}, {Kind: 4, Else: inBoth}}
			}
		}
		sized(t, inBody, levels, levels)
		sized(t, inElse, levels, levels)
		sized(t, inBoth, 2*levels, levels)
		alike(t, []api.Def{{Body: inBody}}, []api.Def{{Body: inBody}}, true)
		alike(t, []api.Def{{Body: inBody}}, []api.Def{{Body: inElse}}, levels == 1)
		alike(t, []api.Def{{Body: inBoth}}, []api.Def{{Body: inBoth}}, true)
		alike(t, []api.Def{{Body: inBoth}}, []api.Def{{Body: inBoth[1:]}}, false)
	}
	row := make([]api.Def, many)
	alike(t, row, make([]api.Def, many), true)
	alike(t, row, make([]api.Def, many+1), false)
}
