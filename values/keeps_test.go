package values

import (
	"fmt"
	"strconv"
	"strings"
	"sync"
	"testing"
	"unsafe"

	"muslin/api"
)

// wholeOf tells all that a value is, nil and empty lists as one.
func wholeOf(v api.Value) string {
	var b strings.Builder
	b.WriteString(fmt.Sprintf("%d,%d,%q,%q(", v.Kind, v.Int, v.Text, v.Keys))
	for _, x := range v.List {
		b.WriteString(wholeOf(x) + ";")
	}
	return b.String() + ")"
}

// fresh answers s in octets that may be written to, and a text that lies in them.
func fresh(s string) ([]byte, string) {
	b := []byte(s)
	if len(b) == 0 {
		return nil, ""
	}
	return b, unsafe.String(&b[0], len(b))
}

// copyOf answers a copy that this test makes by itself.
func copyOf(v api.Value) api.Value {
	return written(v, new([]func()))
}

// written answers a copy of v, and puts to undo what writes over all of its memory.
func written(v api.Value, undo *[]func()) api.Value {
	over := func(s string) string {
		b, out := fresh(s)
		*undo = append(*undo, func() {
			for i := range b {
				b[i] = '#'
			}
		})
		return out
	}
	out := api.Value{Kind: v.Kind, Int: v.Int, Text: over(v.Text)}
	for _, x := range v.List {
		out.List = append(out.List, written(x, undo))
	}
	for _, key := range v.Keys {
		out.Keys = append(out.Keys, over(key))
	}
	*undo = append(*undo, func() {
		for i := range out.List {
			out.List[i] = api.Value{Kind: 99, Text: "gone"}
		}
		for i := range out.Keys {
			out.Keys[i] = "gone"
		}
	})
	return out
}

type span struct{ from, to uintptr }

// spans answers the memory that v's texts and lists take, room behind a list's end too.
func spans(v api.Value) []span {
	var out []span
	put := func(at unsafe.Pointer, size uintptr) {
		if size > 0 {
			out = append(out, span{uintptr(at), uintptr(at) + size})
		}
	}
	put(unsafe.Pointer(unsafe.StringData(v.Text)), uintptr(len(v.Text)))
	put(unsafe.Pointer(unsafe.SliceData(v.List)), uintptr(cap(v.List))*unsafe.Sizeof(v))
	put(unsafe.Pointer(unsafe.SliceData(v.Keys)), uintptr(cap(v.Keys))*unsafe.Sizeof(""))
	for _, key := range v.Keys {
		put(unsafe.Pointer(unsafe.StringData(key)), uintptr(len(key)))
	}
	for _, x := range v.List {
		out = append(out, spans(x)...)
	}
	return out
}

// meet tells whether a span of one meets a span of the other; of a list and itself whether two of it meet.
func meet(one []span, other []span) bool {
	self := len(one) > 0 && len(other) > 0 && &one[0] == &other[0]
	for i, a := range one {
		for j, b := range other {
			if a.from < b.to && b.from < a.to && !(self && i == j) {
				return true
			}
		}
	}
	return false
}

// lookAtMemory holds an answer against the argument that it was made of, and against a second answer.
func lookAtMemory(t *testing.T, what string, given []span, one []span, two []span) {
	t.Helper()
	if meet(one, given) {
		t.Errorf("P4.4: an answer of %s shares memory with its argument", what)
	}
	if meet(one, two) {
		t.Errorf("P4.4: two answers of %s share memory", what)
	}
	if meet(one, one) {
		t.Errorf("P4.4: two parts of an answer of %s share memory", what)
	}
}

// memoryValues are values of texts of all lengths, some of which share their memory.
func memoryValues() []api.Value {
	shared := []api.Value{Text("s"), listOf(Text("shared"))}
	keys := []string{"a", "b"}
	twice := api.Value{Kind: 6, Keys: keys, List: shared}
	return []api.Value{
		Text("a"), Text("ab"), Text(strings.Repeat("long", 100)), says(7, "<b>"), says(12, "odd"), says(-1, "odd"), kindOf(0), kindOf(1), kindOf(2), Int(7), Int(-70),
		listOf(), listOf(Text("x")), listOf(Text("x"), Text("yy"), listOf(Text("z"), listOf())), recordOf("a bb", Text("x"), recordOf("c", Text("yy"))),
		listOf(twice, twice), recordOf("a b", twice, twice), {Kind: 5, List: append(shared, shared...)[:3], Keys: keys}, {Kind: 5, List: make([]api.Value, 2, 9), Keys: make([]string, 1, 9)},
		{Kind: 4, Text: "t", List: shared, Keys: keys}, {Kind: 77, Text: "t", List: shared, Keys: keys}, nest(20, Text("deep"), inBoth),
	}
}

func TestAnswersAreNewMemory(t *testing.T) { // P4.4, P2
	for _, v := range memoryValues() {
		given := spans(v)
		lookAtMemory(t, "Clone", given, spans(Clone(v)), spans(Clone(v)))
		one, two := api.Value{Text: Print(v)}, api.Value{Text: Print(v)}
		lookAtMemory(t, "Print", given, spans(one), spans(two))
		lookAtMemory(t, "Text", spans(api.Value{Text: v.Text}), spans(Text(v.Text)), spans(Text(v.Text)))
		for n := range v.List {
			one, _ := Index(v, n)
			two, _ := Index(v, n)
			lookAtMemory(t, "Index", given, spans(one), spans(two))
		}
		for _, key := range v.Keys {
			one, _ := Field(v, key)
			two, _ := Field(v, key)
			lookAtMemory(t, "Field", given, spans(one), spans(two))
		}
	}
}

func TestAnswersStayWhenArgumentsChange(t *testing.T) { // P4.4, P2
	for _, v := range memoryValues() {
		var undo []func()
		given := written(v, &undo)
		answers := []api.Value{Clone(given), Text(given.Text), {Text: Print(given)}}
		for n := range given.List {
			x, _ := Index(given, n)
			answers = append(answers, x)
		}
		for _, key := range given.Keys {
			x, _ := Field(given, key)
			answers = append(answers, x)
		}
		want := wholeOf(listOf(answers...))
		for _, do := range undo {
			do()
		}
		if got := wholeOf(listOf(answers...)); got != want {
			t.Errorf("P4.4: answers have changed with their argument: %s, not %s", got, want)
		}
	}
}

func TestArgumentsStayWhenAnswersChange(t *testing.T) { // P4.4, P2
	for _, v := range memoryValues() {
		want := wholeOf(v)
		answers := []api.Value{Clone(v)}
		for n := range v.List {
			x, _ := Index(v, n)
			answers = append(answers, x)
		}
		for _, key := range v.Keys {
			x, _ := Field(v, key)
			answers = append(answers, x)
		}
		for _, x := range answers {
			spoil(x)
		}
		if got := wholeOf(v); got != want {
			t.Errorf("P4.4: an argument has changed with an answer: %s, not %s", got, want)
		}
	}
}

// spoil writes over v's lists, and behind their ends.
func spoil(v api.Value) {
	for i := range v.List {
		spoil(v.List[i])
		v.List[i] = Text("gone")
	}
	for i := range v.Keys {
		v.Keys[i] = "gone"
	}
	_, _ = append(v.List, Text("gone")), append(v.Keys, "gone")
}

// callAll asks every call of v, and tells all that they answer.
func callAll(v api.Value) string {
	var b strings.Builder
	put := func(x api.Value, err api.Errno) { b.WriteString(wholeOf(x) + "," + strconv.Itoa(int(err)) + ";") }
	size, err := Len(v)
	b.WriteString(fmt.Sprintln(Check(v), Plain(v), Truth(v), size, err, Same(v, v), Same(v, listOf(v)), Print(v)))
	put(Clone(v), api.OK)
	put(Text(v.Text), api.OK)
	put(Int(v.Int), api.OK)
	for _, name := range append([]string{"a", "", "no such key"}, v.Keys...) {
		put(Field(v, name))
	}
	for n := -1; n <= min(len(v.List), 5); n++ {
		put(Index(v, n))
	}
	return b.String()
}

func TestArgumentsAreNotChanged(t *testing.T) { // P4.4, P2, P1
	for _, v := range oddValues() {
		given, want := copyOf(v), wholeOf(v)
		callAll(given)
		if got := wholeOf(given); got != want {
			t.Fatalf("P4.4: a call has changed %.200s to %.200s", want, got)
		}
	}
}

func TestNothingStandsBesideAnError(t *testing.T) { // P4
	zero := wholeOf(api.Value{})
	for _, v := range oddValues() {
		for _, name := range append([]string{"a", "no such key"}, v.Keys...) {
			if x, err := Field(v, name); err != api.OK && wholeOf(x) != zero {
				t.Errorf("P4: Field answers %d and %+v", err, x)
			}
		}
		for n := -2; n <= len(v.List)+1; n++ {
			if x, err := Index(v, n); err != api.OK && wholeOf(x) != zero {
				t.Errorf("P4: Index answers %d and %+v", err, x)
			}
		}
		if n, err := Len(v); err != api.OK && n != 0 {
			t.Errorf("P4: Len answers %d and %d", err, n)
		}
	}
}

func TestNilAndEmptyListsAreOne(t *testing.T) { // P1
	for _, v := range smallValues() {
		if len(v.List) > 0 && len(v.Keys) > 0 {
			continue
		}
		other := v
		if len(v.List) == 0 {
			v.List, other.List = nil, make([]api.Value, 0, 3)
		}
		if len(v.Keys) == 0 {
			v.Keys, other.Keys = nil, make([]string, 0, 3)
		}
		if one, two := callAll(v), callAll(other); one != two {
			t.Errorf("P1: with nil lists %s, with empty ones %s", one, two)
		}
	}
}

func TestAnswersHangOnArgumentsAlone(t *testing.T) { // P3
	values := oddValues()
	tell := func() string {
		var b strings.Builder
		for _, v := range values {
			b.WriteString(callAll(v))
		}
		return b.String()
	}
	want := tell()
	got := make([]string, 8)
	var wait sync.WaitGroup
	for i := range got {
		wait.Go(func() { got[i] = tell() })
	}
	wait.Wait()
	for _, g := range got {
		if g != want {
			t.Error("P3: the calls answer otherwise from run to run")
		}
	}
}

func TestVeryDeepValues(t *testing.T) { // P1, Limits
	for name, around := range map[string]func(v api.Value) api.Value{"lists": inList, "records": inRecord, "both": inBoth} {
		plain, safe := nest(mostDeep, Int(1), around), nest(mostDeep, says(7, "1"), around)
		if Check(plain) != api.ErrDepth || !Plain(plain) || Plain(safe) || !Truth(plain) {
			t.Errorf("P1: Check, Plain or Truth of deep %s", name)
		}
		if n, err := Len(plain); n != 1 || err != api.OK {
			t.Errorf("P1: Len of deep %s is %d, %d", name, n, err)
		}
		if !Same(plain, nest(mostDeep, Int(1), around)) || Same(plain, safe) || Same(plain, nest(mostDeep-1, Int(1), around)) {
			t.Errorf("P1: Same of deep %s", name)
		}
		if !Same(Clone(plain), plain) {
			t.Errorf("P1: Clone of deep %s", name)
		}
		inner, err := Field(recordOf("a b", Int(1), plain), "b")
		if err != api.OK || !Same(inner, plain) {
			t.Errorf("P1: Field of deep %s", name)
		}
		inner, err = Index(listOf(Int(1), plain), 1)
		if err != api.OK || !Same(inner, plain) {
			t.Errorf("P1: Index of deep %s", name)
		}
	}
}

func TestPrintOfVeryDeepValues(t *testing.T) { // P4.3, P1, Limits
	for _, c := range []struct {
		ahead, behind string
		around        func(v api.Value) api.Value
	}{
		{"[", "]", inList},
		{"{k:", "}", inRecord},
		{"[{k:", "}]", func(v api.Value) api.Value { return listOf(recordOf("k", v)) }},
	} {
		count := mostDeep / len(c.behind)
		want := strings.Repeat(c.ahead, count) + "1" + strings.Repeat(c.behind, count)
		if got := Print(nest(count, Int(1), c.around)); got != want {
			t.Errorf("P4.3: Print of deep %s%s has %d octets, not %d", c.ahead, c.behind, len(got), len(want))
		}
	}
}

func TestWideValues(t *testing.T) { // P1, Limits
	list, keys := many(1 << 17)
	wide := api.Value{Kind: 6, List: list, Keys: keys}
	last := keys[len(keys)-1]
	if got, err := Field(wide, last); !Same(got, list[len(list)-1]) || err != api.OK {
		t.Errorf("P1: Field of a wide record is %+v, %d", got, err)
	}
	if n, err := Len(wide); n != len(list) || err != api.OK {
		t.Errorf("P1: Len of a wide record is %d, %d", n, err)
	}
	if Check(wide) != api.ErrCount || !Plain(wide) || !Truth(wide) || !Same(Clone(wide), wide) {
		t.Error("P1: Check, Plain, Truth or Same of a wide record")
	}
	if got := Print(wide); !strings.HasPrefix(got, "{k100000:0 k100001:1 ") || !strings.HasSuffix(got, " "+last+":131071}") {
		t.Errorf("P1: Print of a wide record is %.40q and so on", got)
	}
}

func TestErrorsAreNumbersOfAPI(t *testing.T) { // P4, P5
	list, _ := many(1025)
	for what, c := range map[string]struct{ got, want api.Errno }{
		"Check of a deep one":  {Check(nest(17, Int(1), inList)), 42},
		"Check of a long one":  {Check(Text(strings.Repeat("x", 4097))), 5},
		"Check of a great one": {Check(listOf(list...)), 3},
		"Check of no Kind":     {Check(kindOf(12)), 9},
		"Check of null":        {Check(kindOf(0)), 0},
	} {
		if c.got != c.want {
			t.Errorf("P5: %s answers %d, not %d", what, c.got, c.want)
		}
	}
	_, noRecord := Field(Int(1), "a")
	_, noKey := Field(recordOf("a", Int(1)), "b")
	_, noList := Index(Int(1), 0)
	_, noPlace := Index(listOf(), 0)
	_, noLen := Len(Int(1))
	got := []api.Errno{noRecord, noKey, noList, noPlace, noLen}
	for i, want := range []api.Errno{13, 14, 13, 15, 13} {
		if got[i] != want {
			t.Errorf("P5: the errors %v: the one at %d is not %d", got, i, want)
		}
	}
}
