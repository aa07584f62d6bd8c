package pipes

import (
	"slices"
	"strings"

	"muslin/api"
	"muslin/faults"
	"muslin/lex"
	"muslin/number"
	"muslin/octets"
)

// The kinds of words, as lex numbers them.
const (
	_ = iota
	nameWord
	pathWord
	variableWord
	numberWord
	textWord
	signWord
)

const (
	dot      = "."
	dollar   = "$"
	pipe     = "|"
	declares = ":="
)

// reader reads a pipeline's words, from the left.
type reader struct {
	words []lex.Word // those that are still to be read
	end   int        // what counts as the place behind the last one
	place int        // of what is read
}

func (r *reader) calls() []api.Call {
	r.see()
	faults.Demand(len(r.words) > 0, api.ErrShort)
	out := []api.Call{r.call(0)}
	for len(r.words) > 0 {
		r.passPipe()
		out = append(out, r.call(len(out)))
	}
	return out
}

// see takes the place of the next word.
func (r *reader) see() {
	r.place = r.end
	if len(r.words) > 0 {
		r.place = r.words[0].At
	}
}

// call reads the words of a call that has so many calls ahead of it.
func (r *reader) call(ahead int) api.Call {
	r.see()
	first, own := r.place, r.cut()
	faults.Demand(len(own) > 0, api.ErrSyntax)
	var c api.Call
	for i, w := range own {
		r.place = w.At
		if i == 0 && namesFunction(w) {
			c.Name = function(w)
			continue
		}
		faults.Demand(c.Name != "" || ahead == 0 && i == 0, api.ErrSyntax)
		c.Args = append(c.Args, argument(w))
	}
	r.place = first
	faults.Demand(ahead < api.MaxPipe && fits(c, ahead), api.ErrCount)
	return c
}

// cut takes the words up to the sign that ends their call.
func (r *reader) cut() []lex.Word {
	size := slices.IndexFunc(r.words, func(w lex.Word) bool { return isSign(w, pipe) || isSign(w, declares) })
	if size < 0 {
		size = len(r.words)
	}
	own := r.words[:size]
	r.words = r.words[size:]
	return own
}

// passPipe goes over the sign that ended a call.
func (r *reader) passPipe() {
	r.see()
	faults.Demand(isSign(r.words[0], pipe), api.ErrSyntax)
	r.words = r.words[1:]
}

func isSign(w lex.Word, sign string) bool {
	return w.Kind == signWord && w.Text == sign
}

// namesFunction tells whether w, as a call's first word, is to be a function's name.
func namesFunction(w lex.Word) bool {
	return w.Kind == nameWord && constant(w.Text) == 0
}

func function(w lex.Word) string {
	_, _, ok := Arity(w.Text)
	faults.Demand(ok, api.ErrName)
	return strings.Clone(w.Text)
}

// argument answers what w tells; a word that lex does not make is none.
func argument(w lex.Word) api.Arg {
	switch w.Kind {
	case nameWord:
		kind := constant(w.Text)
		faults.Demand(kind != 0, api.ErrSyntax)
		return api.Arg{Kind: kind}
	case pathWord:
		if w.Text == dot {
			return api.Arg{Kind: aPath}
		}
		faults.Demand(w.Text != "", api.ErrSyntax)
		return api.Arg{Kind: aPath, Path: fields(w.Text)}
	case variableWord:
		return variable(w.Text)
	case numberWord:
		n, err := number.Parse(w.Text)
		faults.Demand(err == api.OK, api.ErrSyntax)
		return api.Arg{Kind: aNumber, Int: n}
	case textWord:
		faults.Demand(len(w.Text) <= api.MaxValue, api.ErrSyntax)
		return api.Arg{Kind: aText, Text: strings.Clone(w.Text)}
	}
	faults.Demand(false, api.ErrSyntax)
	return api.Arg{}
}

func variable(s string) api.Arg {
	rest, ok := strings.CutPrefix(s, dollar)
	faults.Demand(ok, api.ErrSyntax)
	name, _, _ := strings.Cut(rest, dot)
	faults.Demand(mayName(name), api.ErrSyntax)
	path := fields(rest[len(name):])
	return api.Arg{Kind: aVariable, Name: strings.Clone(name), Path: path}
}

// fields answers the names of s, ahead of each of which a dot stands.
func fields(s string) []string {
	ahead, names, _ := strings.Cut(s, dot)
	faults.Demand(ahead == "", api.ErrSyntax)
	if s == "" {
		return nil
	}
	var out []string
	for _, name := range strings.Split(names, dot) {
		faults.Demand(octets.Name(name), api.ErrSyntax)
		out = append(out, strings.Clone(name))
	}
	faults.Demand(len(out) <= api.MaxNest, api.ErrDepth)
	return out
}

// constant answers the Kind of what is so named, 0 of a name that is no constant's.
func constant(name string) int {
	for kind := isTrue; kind <= isNil; kind++ {
		if name == constantOf(kind) {
			return kind
		}
	}
	return 0
}

func constantOf(kind int) string {
	switch kind {
	case isTrue:
		return "true"
	case isFalse:
		return "false"
	case isNil:
		return "nil"
	}
	return ""
}
