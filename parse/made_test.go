package parse_test

import (
	"fmt"
	"reflect"
	"regexp"
	"slices"
	"strings"
	"testing"
	"unsafe"

	"muslin/api"
	"muslin/lex"
	"muslin/parse"
	"muslin/pipes"
)

// remark is what stands for nothing, but moves what stands behind it.
const remark = "{{/* }} {{ */}}"

// piped is the pipeline that s is, none of no words.
func piped(s string) []api.Call {
	words, place, err := lex.Words(s, 0)
	if err == api.OK && len(words) == 0 {
		return nil
	}
	calls, _, fault := pipes.Parse(words, 0)
	if err != api.OK || fault != api.OK {
		panic(fmt.Sprintf("%q is no pipeline: %d, %d at %d", s, err, fault, place))
	}
	return calls
}

// Templates, in short.

func first(nodes ...api.Node) api.Def { return api.Def{Body: nodes} }

func named(name string, nodes ...api.Node) api.Def { return api.Def{Name: name, Body: nodes} }

func text(at int, s string) api.Node { return api.Node{Kind: 1, Text: s, At: at} }

func action(at int, p string) api.Node { return api.Node{Kind: 2, Pipe: piped(p), At: at} }

func called(at int, name string, p string) api.Node {
	return api.Node{Kind: 6, Name: name, Pipe: piped(p), At: at}
}

func variable(at int, name string, p string) api.Node {
	return api.Node{Kind: 7, Name: name, Pipe: piped(p), At: at}
}

// These have nodes of their own.

func when(at int, p string, body ...api.Node) api.Node {
	return api.Node{Kind: 3, Pipe: piped(p), Body: body, At: at}
}

func each(at int, p string, body ...api.Node) api.Node {
	return api.Node{Kind: 4, Pipe: piped(p), Body: body, At: at}
}

func with(at int, p string, body ...api.Node) api.Node {
	return api.Node{Kind: 5, Pipe: piped(p), Body: body, At: at}
}

func otherwise(n api.Node, nodes ...api.Node) api.Node {
	n.Else = nodes
	return n
}

// blocks are the words that have an end, and the kinds of their nodes.
var blocks = []struct {
	word string
	kind int
}{{"if", 3}, {"range", 4}, {"with", 5}}

// block is a node of one of these kinds.
func block(kind int, at int, p string, body ...api.Node) api.Node {
	return api.Node{Kind: kind, Pipe: piped(p), Body: body, At: at}
}

// brief is what was answered, as far as a person wants to see it.
func brief(answer any) string {
	return fmt.Sprintf("%.600s", fmt.Sprintf("%+v", answer))
}

// parsed is what s is.
func parsed(t *testing.T, s string) []api.Def {
	t.Helper()
	l, at, err := parse.Parse(s)
	if at != len(s) || err != api.OK {
		t.Fatalf("P20.1: Parse of %.200q is refused with %d at %d", s, err, at)
	}
	return l
}

// tells tells whether Parse answers those templates of s, alone and behind a remark.
func tells(t *testing.T, s string, want ...api.Def) {
	t.Helper()
	for _, ahead := range []string{"", remark} {
		got, at, err := parse.Parse(ahead + s)
		moved := moved(want, len(ahead))
		if !reflect.DeepEqual(filled(got), moved) || at != len(ahead+s) || err != api.OK {
			t.Errorf("P20.1: Parse of %.200q is\n%s, %d, %d, not\n%s", ahead+s, brief(filled(got)), at, err, brief(moved))
		}
	}
}

// tellsNot tells whether Parse refuses what stands at that place of s, alone, behind a remark and with one more fault behind it.
func tellsNot(t *testing.T, s string, place int, want api.Errno) {
	t.Helper()
	for _, ahead := range []string{"", remark} {
		refuses(t, ahead+s, len(ahead)+place, want)
		if place < len(s) {
			refuses(t, ahead+s+"{{}}", len(ahead)+place, want)
			refuses(t, ahead+s+"{{?", len(ahead+s), api.ErrShort) // which lex.Items tells
		}
	}
}

// refuses tells whether Parse refuses s so.
func refuses(t *testing.T, s string, place int, want api.Errno) {
	t.Helper()
	if got, at, err := parse.Parse(s); len(got) != 0 || at != place || err != want {
		t.Errorf("P20.1: Parse of %.200q is %s, %d, %d, not %d at %d", s, brief(got), at, err, want, place)
	}
}

// moved is l so far behind, without a list that is nil.
func moved(l []api.Def, by int) []api.Def {
	out := []api.Def{}
	for _, d := range l {
		d.Body = movedNodes(d.Body, by)
		out = append(out, d)
	}
	return out
}

func movedNodes(l []api.Node, by int) []api.Node {
	out := []api.Node{}
	for _, n := range l {
		n.At += by
		n.Pipe = filledCalls(n.Pipe)
		n.Body = movedNodes(n.Body, by)
		n.Else = movedNodes(n.Else, by)
		out = append(out, n)
	}
	return out
}

func filledCalls(l []api.Call) []api.Call {
	out := []api.Call{}
	for _, c := range l {
		args := []api.Arg{}
		for _, a := range c.Args {
			a.Path = append([]string{}, a.Path...)
			args = append(args, a)
		}
		out = append(out, api.Call{Name: c.Name, Args: args})
	}
	return out
}

// filled is l in memory of its own, without a list that is nil.
func filled(l []api.Def) []api.Def {
	return moved(l, 0)
}

// A second reading, which calls itself for each block.

type second struct {
	s       string
	items   []lex.Item
	made    int
	names   []string
	defs    []api.Def
	pending api.Node // of an else if that ended a list
	place   int
	err     api.Errno
}

// secondReading is what Parse should answer of s.
func secondReading(s string) ([]api.Def, int, api.Errno) {
	items, place, err := lex.Items(s)
	if err != api.OK {
		return nil, place, err
	}
	r := second{s: s, items: items}
	body, _ := r.list(0, false)
	if r.err != api.OK {
		return nil, r.place, r.err
	}
	return append([]api.Def{{Body: body}}, r.defs...), len(s), api.OK
}

// fails tells whether something is wrong, and keeps what is wrong first.
func (r *second) fails(wrong bool, place int, err api.Errno) bool {
	if r.err == api.OK && wrong {
		r.place, r.err = place, err
	}
	return r.err != api.OK
}

var openings = regexp.MustCompile(`^\{\{(?:-[ \t\n\f\r])?[ \t\n\f\r]*`)

func (r *second) words(it lex.Item) []lex.Word {
	begin := it.At + len(openings.FindString(r.s[it.At:]))
	words, place, err := lex.Words(it.Text, begin)
	r.fails(err != api.OK, place, err)
	r.fails(len(words) == 0, it.At, api.ErrSyntax)
	return words
}

// says tells whether the word of that number is that name.
func says(l []lex.Word, number int, name string) bool {
	return number < len(l) && l[number].Kind == 1 && l[number].Text == name
}

func (r *second) counts(at int) {
	r.fails(r.made >= 1024, at, api.ErrCount)
	r.made++
}

var goodName = regexp.MustCompile(`^[A-Za-z_][A-Za-z_0-9]{0,31}$`)

// name is that of a template, which stands behind the first word.
func (r *second) name(l []lex.Word, at int) string {
	if r.fails(len(l) < 2 || l[1].Kind != 5, at, api.ErrSyntax) {
		return ""
	}
	r.fails(!goodName.MatchString(l[1].Text), at, api.ErrName)
	return l[1].Text
}

func (r *second) piped(l []lex.Word, at int) []api.Call {
	calls, place, err := pipes.Parse(l, at)
	r.fails(err != api.OK, place, err)
	return calls
}

// list reads nodes within so many blocks, and answers them and what ended them: else, else if or end, or nothing.
func (r *second) list(within int, mayElse bool) ([]api.Node, string) {
	var out []api.Node
	for len(r.items) > 0 {
		it := r.items[0]
		r.items = r.items[1:]
		at := it.At
		if it.Kind == 1 {
			if last := len(out) - 1; last >= 0 && out[last].Kind == 1 {
				out[last].Text += it.Text
				continue
			}
			r.counts(at)
			out = append(out, api.Node{Kind: 1, Text: it.Text, At: at})
		} else if n, end := r.action(it, within, mayElse); end != "" || r.err != api.OK {
			return out, end
		} else if n.Kind != 0 {
			out = append(out, n)
		}
		if r.err != api.OK {
			return nil, ""
		}
	}
	r.fails(within > 0, len(r.s), api.ErrShort)
	return out, ""
}

// action reads one, with all that stands in it, and answers its node, or that it ends a list.
func (r *second) action(it lex.Item, within int, mayElse bool) (api.Node, string) {
	at, none := it.At, api.Node{}
	l := r.words(it)
	if r.err != api.OK {
		return none, ""
	}
	switch {
	case says(l, 0, "end"):
		r.fails(within == 0 || len(l) > 1, at, api.ErrSyntax)
		return none, "end"
	case says(l, 0, "else") && len(l) == 1:
		r.fails(!mayElse, at, api.ErrSyntax)
		return none, "else"
	case says(l, 0, "else"):
		r.fails(!mayElse || !says(l, 1, "if"), at, api.ErrSyntax)
		if !r.fails(within+1 > 16, at, api.ErrDepth) {
			r.counts(at)
			r.pending = api.Node{Kind: 3, Pipe: r.piped(l[2:], at), At: at}
		}
		return none, "else if"
	case says(l, 0, "define"):
		r.fails(within > 0, at, api.ErrSyntax)
		name := r.name(l, at)
		r.fails(len(l) > 2, at, api.ErrSyntax)
		r.fails(slices.Contains(r.names, name), at, api.ErrTwice)
		if r.err == api.OK {
			r.names = append(r.names, name)
			body, _ := r.list(1, false)
			r.defs = append(r.defs, api.Def{Name: name, Body: body})
		}
		return none, ""
	}
	r.counts(at)
	switch {
	case says(l, 0, "template"):
		n := api.Node{Kind: 6, Name: r.name(l, at), At: at}
		if len(l) > 2 {
			n.Pipe = r.piped(l[2:], at)
		}
		return n, ""
	case len(l) > 1 && l[0].Kind == 3 && l[1].Kind == 6 && l[1].Text == ":=":
		name := l[0].Text[1:]
		r.fails(!goodName.MatchString(name), at, api.ErrSyntax)
		return api.Node{Kind: 7, Name: name, Pipe: r.piped(l[2:], at), At: at}, ""
	}
	for _, b := range blocks {
		if says(l, 0, b.word) {
			n := api.Node{Kind: b.kind, Pipe: r.piped(l[1:], at), At: at}
			r.fails(within+1 > 16, at, api.ErrDepth)
			return r.block(n, within+1), ""
		}
	}
	return api.Node{Kind: 2, Pipe: r.piped(l, at), At: at}, ""
}

// block reads all up to the end of n, which makes so many blocks.
func (r *second) block(n api.Node, within int) api.Node {
	if r.err != api.OK {
		return n
	}
	var end string
	n.Body, end = r.list(within, true)
	switch end {
	case "else":
		n.Else, _ = r.list(within, false)
	case "else if":
		n.Else = []api.Node{r.block(r.pending, within+1)}
	}
	return n
}

// asShould holds Parse of s against the second reading, and what it answers against Same, Size and Depth.
func asShould(t *testing.T, s string) {
	t.Helper()
	got, at, err := parse.Parse(s)
	want, wantAt, wantErr := secondReading(s)
	if at != wantAt || err != wantErr || !reflect.DeepEqual(filled(got), filled(want)) {
		t.Fatalf("P20.1: Parse of %.600q is\n%s, %d, %d, not\n%s, %d, %d", s, brief(got), at, err, brief(want), wantAt, wantErr)
	}
	if !parse.Same(got, filled(want)) {
		t.Fatalf("P20.2: Parse of %.600q is not the same as itself", s)
	}
	for _, d := range got {
		size, depth := measured(d.Body)
		if parse.Size(d.Body) != size || parse.Depth(d.Body) != depth {
			t.Fatalf("P20.2: of %.600q Size is %d and Depth %d, not %d and %d", s, parse.Size(d.Body), parse.Depth(d.Body), size, depth)
		}
	}
}

// measured is how many nodes there are and how deep, row by row.
func measured(l []api.Node) (int, int) {
	size, depth := 0, 0
	for ; len(l) > 0; depth++ {
		size += len(l)
		var row []api.Node
		for _, n := range l {
			row = append(append(row, n.Body...), n.Else...)
		}
		l = row
	}
	return size, depth
}

// every is a text of all octets.
func every() string {
	out := make([]byte, 256)
	for i := range out {
		out[i] = byte(i)
	}
	return string(out)
}

// long is a name of 32 octets.
func long() string {
	return strings.Repeat("b", 32)
}

// fresh is s in octets that may be written to, and they read as a text.
func fresh(s string) ([]byte, string) {
	b := []byte(s)
	if len(b) == 0 {
		return nil, ""
	}
	return b, unsafe.String(&b[0], len(b))
}

// span is where in memory something lies.
type span struct {
	from, to uintptr
	what     string
}

func textSpan(s string) span {
	from := uintptr(unsafe.Pointer(unsafe.StringData(s)))
	return span{from, from + uintptr(len(s)), fmt.Sprintf("the text %.40q", s)}
}

func listSpan[T any](l []T) span {
	var one T
	from := uintptr(unsafe.Pointer(unsafe.SliceData(l)))
	return span{from, from + uintptr(cap(l))*unsafe.Sizeof(one), fmt.Sprintf("a list of %T", one)}
}

// spans is all memory that templates have.
func spans(l []api.Def) []span {
	out := []span{listSpan(l)}
	for _, d := range l {
		out = append(append(out, textSpan(d.Name)), nodeSpans(d.Body)...)
	}
	return out
}

func nodeSpans(l []api.Node) []span {
	out := []span{listSpan(l)}
	for _, n := range l {
		out = append(out, textSpan(n.Text), textSpan(n.Name), listSpan(n.Pipe))
		for _, c := range n.Pipe {
			out = append(out, textSpan(c.Name), listSpan(c.Args))
			for _, a := range c.Args {
				out = append(out, textSpan(a.Name), textSpan(a.Text), listSpan(a.Path))
				for _, name := range a.Path {
					out = append(out, textSpan(name))
				}
			}
		}
		out = append(append(out, nodeSpans(n.Body)...), nodeSpans(n.Else)...)
	}
	return out
}

// shared is what of these lies in one place with another of them, "" if nothing does.
func shared(l []span) string {
	l = slices.DeleteFunc(l, func(s span) bool { return s.from == s.to })
	slices.SortFunc(l, func(a span, b span) int { return int(a.from) - int(b.from) })
	for i := range len(l) - 1 {
		if l[i].to > l[i+1].from {
			return l[i].what + " and " + l[i+1].what
		}
	}
	return ""
}
