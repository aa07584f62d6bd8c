package parse

import (
	"slices"
	"strings"

	"muslin/api"
	"muslin/faults"
	"muslin/lex"
	"muslin/octets"
	"muslin/pipes"
)

// The kinds of pieces, as lex numbers them.
const (
	_ = iota
	textPiece
	actionPiece
)

// The kinds of words, as lex numbers them.
const (
	_ = iota
	nameWord
	pathWord
	variableWord
	numberWord
	textWord
	signWord
)

const (
	opening  = "{{"
	trim     = '-' // behind opening, with a blank on its other side
	dollar   = "$"
	declares = ":="
)

// builder builds templates of their pieces, from the left.
type builder struct {
	template string
	place    int       // of the piece that is read, or of what is wrong
	size     int       // how many nodes there are
	defs     []api.Def // the first template, which stays empty till the end, and those that have ended
	open     []block   // the first template and what stands open in it, the innermost last
}

// block is what other nodes stand in, and whose end is still to come.
type block struct {
	node       api.Node // of a template, which is no node, just its Name and its nodes as Body
	behindElse bool
	chained    bool // an else if, which ends where the block around it does
}

func (b *builder) build() []api.Def {
	items, place, err := lex.Items(b.template)
	b.pass(place, err)
	b.defs = make([]api.Def, 1)
	b.open = make([]block, 1)
	for _, item := range items {
		b.place = item.At
		if item.Kind == textPiece {
			b.text(item.Text)
		} else {
			b.action(b.words(item))
		}
	}
	b.place = len(b.template)
	faults.Demand(b.outside(), api.ErrShort)
	b.defs[0].Body = b.innermost().node.Body
	return b.defs
}

// pass faults with an error of a layer below, at the place that it told, unless there is none.
func (b *builder) pass(place int, err api.Errno) {
	if err != api.OK {
		b.place = place
	}
	faults.Demand(err == api.OK, err)
}

// words answers those of an action, with the places that they have in the template.
func (b *builder) words(action lex.Item) []lex.Word {
	words, place, err := lex.Words(action.Text, b.within(action))
	b.pass(place, err)
	return words
}

// within answers the place of an action's text, or, if that is empty, of what stands behind it.
func (b *builder) within(action lex.Item) int {
	at := action.At + len(opening)
	if b.template[at] == trim && octets.Blank(b.template[at+1]) { // a closing at least stands behind both
		at++
	}
	for octets.Blank(b.template[at]) {
		at++
	}
	return at
}

// outside tells whether nothing but the first template stands open.
func (b *builder) outside() bool {
	return len(b.open) == 1
}

func (b *builder) innermost() *block {
	return &b.open[len(b.open)-1]
}

// list is the one that the next node belongs to.
func (b *builder) list() *[]api.Node {
	in := b.innermost()
	if in.behindElse {
		return &in.node.Else
	}
	return &in.node.Body
}

func (b *builder) put(n api.Node) {
	l := b.list()
	*l = append(*l, n)
}

func (b *builder) begin(begun block) {
	b.open = append(b.open, begun)
}

func (b *builder) pop() block {
	ended := *b.innermost()
	b.open = b.open[:len(b.open)-1]
	return ended
}

// count counts a node that is about to be made.
func (b *builder) count() {
	faults.Demand(b.size < api.MaxNodes, api.ErrCount)
	b.size++
}

// demandRoom faults if no other block may stand within those that are open.
func (b *builder) demandRoom() {
	blocks := len(b.open) - 1 // a define is one of them, the first template is none
	faults.Demand(blocks < api.MaxNest, api.ErrDepth)
}

func (b *builder) text(s string) {
	l := *b.list()
	if last := len(l) - 1; last >= 0 && l[last].Kind == aText { // just defines stood between
		l[last].Text += s
		return
	}
	b.count()
	b.put(api.Node{Kind: aText, Text: s, At: b.place})
}

func (b *builder) action(words []lex.Word) {
	faults.Demand(len(words) > 0, api.ErrSyntax)
	first, rest := words[0], words[1:]
	switch {
	case isName(first, "end"):
		b.end(rest)
	case isName(first, "else"):
		b.otherwise(rest)
	case isName(first, "define"):
		b.define(rest)
	default:
		b.count()
		b.makeNode(words)
	}
}

// end ends the innermost block, and those that end with it.
func (b *builder) end(more []lex.Word) {
	faults.Demand(!b.outside() && len(more) == 0, api.ErrSyntax)
	ended := b.pop()
	for ; ended.chained; ended = b.pop() {
		b.put(ended.node)
	}
	if isTemplate(ended) {
		b.defs = append(b.defs, api.Def{Name: ended.node.Name, Body: ended.node.Body})
		return
	}
	b.put(ended.node)
}

func (b *builder) otherwise(more []lex.Word) {
	in := b.innermost()
	faults.Demand(!isTemplate(*in) && !in.behindElse, api.ErrSyntax)
	if len(more) == 0 {
		in.behindElse = true
		return
	}
	faults.Demand(isName(more[0], "if"), api.ErrSyntax)
	b.demandRoom()
	b.count()
	in.behindElse = true
	b.begin(block{node: b.node(anIf, more[1:]), chained: true})
}

func (b *builder) define(more []lex.Word) {
	faults.Demand(b.outside(), api.ErrSyntax)
	name := templateName(more)
	faults.Demand(len(more) == 1, api.ErrSyntax)
	twice := slices.ContainsFunc(b.defs, func(d api.Def) bool { return d.Name == name })
	faults.Demand(!twice, api.ErrTwice)
	b.begin(block{node: api.Node{Name: name}})
}

// makeNode makes the node of an action's words, or begins the block that they do.
func (b *builder) makeNode(words []lex.Word) {
	first, rest := words[0], words[1:]
	kind := blockKind(first)
	switch {
	case kind != 0:
		n := b.node(kind, rest)
		b.demandRoom()
		b.begin(block{node: n})
	case isName(first, "template"):
		b.put(b.call(rest))
	case first.Kind == variableWord && len(rest) > 0 && isSign(rest[0], declares):
		b.put(b.variable(first, rest[1:]))
	default:
		b.put(b.node(anAction, words))
	}
}

// node answers one of that kind that has nothing but a pipeline yet.
func (b *builder) node(kind int, words []lex.Word) api.Node {
	return api.Node{Kind: kind, Pipe: b.pipeline(words), At: b.place}
}

func (b *builder) call(words []lex.Word) api.Node {
	n := api.Node{Kind: aCall, Name: templateName(words), At: b.place}
	if rest := words[1:]; len(rest) > 0 {
		n.Pipe = b.pipeline(rest)
	}
	return n
}

func (b *builder) variable(w lex.Word, words []lex.Word) api.Node {
	name := strings.TrimPrefix(w.Text, dollar)
	faults.Demand(octets.Name(name), api.ErrSyntax)
	return api.Node{Kind: aVariable, Name: name, Pipe: b.pipeline(words), At: b.place}
}

func (b *builder) pipeline(words []lex.Word) []api.Call {
	calls, place, err := pipes.Parse(words, b.place)
	b.pass(place, err)
	return calls
}

// templateName answers the name that those words begin with.
func templateName(words []lex.Word) string {
	faults.Demand(len(words) > 0 && words[0].Kind == textWord, api.ErrSyntax)
	name := words[0].Text
	faults.Demand(octets.Name(name), api.ErrName)
	return name
}

// isTemplate tells whether what it is handed is one, the first or a define, and no node.
func isTemplate(in block) bool {
	return in.node.Kind == 0
}

// blockKind answers the kind of the nodes that begin with w and have an end, 0 if there are none.
func blockKind(w lex.Word) int {
	switch {
	case isName(w, "if"):
		return anIf
	case isName(w, "range"):
		return aRange
	case isName(w, "with"):
		return aWith
	}
	return 0
}

func isName(w lex.Word, name string) bool {
	return w.Kind == nameWord && w.Text == name
}

func isSign(w lex.Word, sign string) bool {
	return w.Kind == signWord && w.Text == sign
}
