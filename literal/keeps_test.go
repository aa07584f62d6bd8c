package literal

import (
	"fmt"
	"strings"
	"sync"
	"testing"
	"unsafe"

	"muslin/api"
	"muslin/values"
)

// wholeOf tells all that a value is, nil and empty lists as one.
func wholeOf(v api.Value) string {
	var b strings.Builder
	b.WriteString(fmt.Sprintf("%d,%d,%q,%q(", v.Kind, v.Int, v.Text, v.Keys))
	for _, x := range v.List {
		b.WriteString(wholeOf(x) + ";")
	}
	return b.String() + ")"
}

// fresh answers s in octets that may be written to, and a text that lies in them.
func fresh(s string) ([]byte, string) {
	b := []byte(s)
	if len(b) == 0 {
		return nil, ""
	}
	return b, unsafe.String(&b[0], len(b))
}

// written answers a copy of v, and puts to undo what writes over all of its memory.
func written(v api.Value, undo *[]func()) api.Value {
	over := func(s string) string {
		b, out := fresh(s)
		*undo = append(*undo, func() { spoilOctets(b) })
		return out
	}
	out := api.Value{Kind: v.Kind, Int: v.Int, Text: over(v.Text)}
	for _, x := range v.List {
		out.List = append(out.List, written(x, undo))
	}
	for _, key := range v.Keys {
		out.Keys = append(out.Keys, over(key))
	}
	*undo = append(*undo, func() { spoil(out) })
	return out
}

func spoilOctets(b []byte) {
	for i := range b {
		b[i] = '#'
	}
}

// spoil writes over v's lists, and behind their ends.
func spoil(v api.Value) {
	for i := range v.List {
		spoil(v.List[i])
		v.List[i] = textOf("gone")
	}
	for i := range v.Keys {
		v.Keys[i] = "gone"
	}
	_, _ = append(v.List, textOf("gone")), append(v.Keys, "gone")
}

type span struct{ from, to uintptr }

func spanOf(at unsafe.Pointer, size uintptr) span {
	return span{uintptr(at), uintptr(at) + size}
}

func textSpan(s string) []span {
	return []span{spanOf(unsafe.Pointer(unsafe.StringData(s)), uintptr(len(s)))}
}

// spans answers the memory that v's texts and lists take, room behind a list's end too.
func spans(v api.Value) []span {
	out := append(textSpan(v.Text),
		spanOf(unsafe.Pointer(unsafe.SliceData(v.List)), uintptr(cap(v.List))*unsafe.Sizeof(v)),
		spanOf(unsafe.Pointer(unsafe.SliceData(v.Keys)), uintptr(cap(v.Keys))*unsafe.Sizeof("")))
	for _, key := range v.Keys {
		out = append(out, textSpan(key)...)
	}
	for _, x := range v.List {
		out = append(out, spans(x)...)
	}
	return out
}

// meet tells whether a span of one meets a span of the other; of a list and itself whether two of it meet.
func meet(one []span, other []span) bool {
	self := len(one) > 0 && len(other) > 0 && &one[0] == &other[0]
	for i, a := range one {
		for j, b := range other {
			if a.from < b.to && b.from < a.to && !(self && i == j) {
				return true
			}
		}
	}
	return false
}

// memoryValues are values of texts of all lengths, the same ones over and over.
func memoryValues() []api.Value {
	return []api.Value{
		kindOf(0), kindOf(1), intOf(7), intOf(-70), textOf(""), textOf("a"), textOf("ab"), textOf("<"), textOf(strings.Repeat("long é", 100)),
		listOf(), recordOf(""), listOf(textOf("a"), textOf("a"), textOf("<"), textOf("<"), textOf("ab"), textOf("ab")), listOf(listOf(textOf("x")), listOf(textOf("x")), listOf(), listOf()),
		recordOf("a b c d e", textOf("a"), textOf("b"), textOf("a"), recordOf("a b", textOf("b"), textOf("a")), recordOf("a b", textOf("a"), textOf("b"))), recordOf("a", textOf("a"), textOf("a")), nest(api.MaxNest, textOf("deep"), inBoth),
	}
}

func TestAnswersAreNewMemory(t *testing.T) { // P5.4, P2
	for _, v := range memoryValues() {
		s := Literal(v)
		_, given := fresh(s)
		one, _, err := Read(given)
		two, _, _ := Read(given)
		if err != api.OK {
			t.Fatalf("P5.2: Read(%q) answers %d", s, err)
		}
		if a, b := spans(one), spans(two); meet(a, b) || meet(a, a) || meet(b, b) || meet(a, textSpan(given)) || meet(b, textSpan(given)) {
			t.Errorf("P5.4: what Read answers of %q shares memory", s)
		}
		if a, b := textSpan(Literal(v)), textSpan(Literal(v)); meet(a, b) || meet(a, spans(v)) {
			t.Errorf("P5.4: what Literal answers of %q shares memory", s)
		}
		if a, b := textSpan(Quote(v.Text)), textSpan(Quote(v.Text)); meet(a, b) || meet(a, textSpan(v.Text)) {
			t.Errorf("P5.4: what Quote answers of %q shares memory", v.Text)
		}
	}
}

func TestAnswersStayWhenArgumentsChange(t *testing.T) { // P5.4, P2
	for _, v := range memoryValues() {
		var undo []func()
		given := written(v, &undo)
		told, quoted := Literal(given), Quote(given.Text)
		for _, do := range undo {
			do()
		}
		if told != Literal(v) || quoted != Quote(v.Text) {
			t.Errorf("P5.4: the literal of %s has changed with its value", wholeOf(v))
		}
		octets, s := fresh(Literal(v))
		got, _, _ := Read(s)
		spoilOctets(octets)
		if wholeOf(got) != wholeOf(v) {
			t.Errorf("P5.4: the value %s has changed with its literal", wholeOf(v))
		}
	}
}

func TestAnswersStayWhenOthersChange(t *testing.T) { // P5.4, P2
	for _, v := range memoryValues() {
		s := Literal(v)
		one, _, _ := Read(s)
		two, _, _ := Read(s)
		spoil(one)
		if three, _, _ := Read(s); wholeOf(two) != wholeOf(v) || wholeOf(three) != wholeOf(v) {
			t.Errorf("P5.4: a value of %q has changed with another", s)
		}
	}
	got, _, _ := Read(`[[1],[1],{"a":1},{"a":1}]`)
	spoil(got.List[0])
	spoil(got.List[2])
	if wholeOf(got.List[1]) != wholeOf(listOf(intOf(1))) || wholeOf(got.List[3]) != wholeOf(recordOf("a", intOf(1))) {
		t.Errorf("P5.4: a list has changed with another of its answer: %s", wholeOf(got))
	}
}

func TestArgumentsAreNotChanged(t *testing.T) { // P5.4, P2, P1
	for _, v := range oddValues() {
		given, want := values.Clone(v), wholeOf(v)
		octets, s := fresh(Literal(given))
		before := string(octets)
		got, _, _ := Read(s)
		spoil(got)
		Quote(s)
		Safe(s)
		if wholeOf(given) != want || string(octets) != before {
			t.Fatalf("P5.4: a call has changed %.200s", want)
		}
	}
}

func TestNilAndEmptyListsAreOne(t *testing.T) { // P1
	for kind := -2; kind <= 13; kind++ {
		none := api.Value{Kind: kind, Text: "t"}
		empty := api.Value{Kind: kind, Text: "t", List: make([]api.Value, 0, 3), Keys: make([]string, 0, 3)}
		if one, two := Literal(listOf(none)), Literal(listOf(empty)); one != two {
			t.Errorf("P1: with nil lists %s, with empty ones %s", one, two)
		}
	}
	one, two := recordOf("", intOf(1)), api.Value{Kind: 6, List: []api.Value{intOf(1)}}
	if Literal(one) != Literal(two) {
		t.Error("P1: Literal of a record with nil keys, and with empty ones")
	}
}

func TestAnswersHangOnArgumentsAlone(t *testing.T) { // P3
	all, texts := oddValues(), append(noLiterals(), oddTexts()...)
	tell := func() string {
		var b strings.Builder
		for _, v := range all {
			s := Literal(v)
			got, n, err := Read(s)
			b.WriteString(fmt.Sprintln(s, wholeOf(got), n, err))
		}
		for _, s := range texts {
			got, n, err := Read(s)
			b.WriteString(fmt.Sprintln(Quote(s), Safe(s), wholeOf(got), n, err))
		}
		return b.String()
	}
	want := tell()
	got := make([]string, 8)
	var wait sync.WaitGroup
	for i := range got {
		wait.Go(func() { got[i] = tell() })
	}
	wait.Wait()
	for _, g := range got {
		if g != want {
			t.Error("P3: the calls answer otherwise from run to run")
		}
	}
}

func TestErrorsAreNumbersOfAPI(t *testing.T) { // P4, P5
	for s, want := range map[string]api.Errno{
		"1": 0, "": 33, "01": 33, strings.Repeat("[", 16) + strings.Repeat("]", 16): 0, strings.Repeat("[", 17) + strings.Repeat("]", 17): 42, strings.Repeat("[", 17): 33,
	} {
		if _, _, err := Read(s); err != want {
			t.Errorf("P5: Read(%q) answers %d, not %d", s, err, want)
		}
	}
}
