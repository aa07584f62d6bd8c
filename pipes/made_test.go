package pipes

import (
	"fmt"
	"reflect"
	"regexp"
	"slices"
	"strings"
	"testing"
	"unsafe"

	"muslin/api"
	"muslin/lex"
)

// arities is what the chapter says of functions.
var arities = map[string][2]int{
	"len": {1, 1}, "not": {1, 1}, "eq": {2, 2}, "lt": {2, 2}, "and": {2, 2}, "or": {2, 2},
	"print": {1, 8}, "join": {2, 2}, "upper": {1, 1}, "lower": {1, 1}, "default": {2, 2}, "index": {2, 2},
}

// functions are their names, in an order.
func functions() []string {
	var out []string
	for name := range arities {
		out = append(out, name)
	}
	slices.Sort(out)
	return out
}

// words is what lex answers of s, whose first octet stands at that place.
func words(t *testing.T, s string, at int) []lex.Word {
	t.Helper()
	l, place, err := lex.Words(s, at)
	if err != api.OK {
		t.Fatalf("lex.Words(%.80q) is refused with %d at %d", s, err, place)
	}
	return l
}

// read is the pipeline that s is.
func read(t *testing.T, s string) []api.Call {
	t.Helper()
	l, at, err := Parse(words(t, s, 3), 7)
	if at != 7 || err != api.OK {
		t.Fatalf("P19.1: Parse of %.80q is refused with %d at %d", s, err, at)
	}
	return l
}

// brief is what was answered, as far as a person wants to see it.
func brief(answer any) string {
	return fmt.Sprintf("%.300s", fmt.Sprintf("%+v", answer))
}

// Arguments, in short.

func dotted(path ...string) api.Arg { return api.Arg{Kind: 1, Path: path} }

func named(name string, path ...string) api.Arg { return api.Arg{Kind: 2, Name: name, Path: path} }

func numbered(n int) api.Arg { return api.Arg{Kind: 3, Int: n} }

func texted(s string) api.Arg { return api.Arg{Kind: 4, Text: s} }

func alone(a api.Arg) api.Call { return api.Call{Args: []api.Arg{a}} }

func call(name string, args ...api.Arg) api.Call { return api.Call{Name: name, Args: args} }

// tells tells whether Parse answers those calls of s, wherever it stands.
func tells(t *testing.T, s string, want ...api.Call) {
	t.Helper()
	for _, at := range []int{0, 1, 700, -5} {
		got, place, err := Parse(words(t, s, at+2), at)
		if !alike(got, want) || place != at || err != api.OK {
			t.Errorf("P19.1: Parse of %.80q at %d is %s, %d, %d, not %s", s, at, brief(got), place, err, brief(want))
		}
	}
}

// tellsNot tells whether Parse refuses what stands at that place of s, -1 being behind it.
func tellsNot(t *testing.T, s string, place int, want api.Errno) {
	t.Helper()
	for _, at := range []int{0, 1, 700, -5} {
		wanted := at
		if place >= 0 {
			wanted = at + 2 + place
		}
		got, where, err := Parse(words(t, s, at+2), at)
		if got != nil || where != wanted || err != want {
			t.Errorf("P19.1: Parse of %.80q at %d is %s, %d, %d, not %d at %d", s, at, brief(got), where, err, want, wanted)
		}
	}
}

// alike tells whether two pipelines are one, nil and empty lists being one.
func alike(a []api.Call, b []api.Call) bool {
	return reflect.DeepEqual(filled(a), filled(b))
}

// filled is l without a list that is nil.
func filled(l []api.Call) []api.Call {
	out := []api.Call{}
	for _, c := range l {
		args := []api.Arg{}
		for _, a := range c.Args {
			a.Path = append([]string{}, a.Path...)
			args = append(args, a)
		}
		out = append(out, api.Call{Name: c.Name, Args: args})
	}
	return out
}

// A second reading: every error that there is, of which the first one counts.

var (
	goodName     = regexp.MustCompile(`^[A-Za-z_][A-Za-z_0-9]{0,31}$`)
	goodPath     = regexp.MustCompile(`^(?:\.|(?:\.[A-Za-z_][A-Za-z_0-9]{0,31})+)$`)
	goodVariable = regexp.MustCompile(`^\$(?:[A-Za-z_][A-Za-z_0-9]{0,31})?(?:\.[A-Za-z_][A-Za-z_0-9]{0,31})*$`)
	goodConstant = regexp.MustCompile(`^(?:true|false|nil)$`)
	fieldName    = regexp.MustCompile(`\.\w+`)
)

// argumentError is what is wrong with w where an argument may stand.
func argumentError(w lex.Word) api.Errno {
	good := false
	switch w.Kind {
	case 1:
		good = goodConstant.MatchString(w.Text)
	case 2:
		good = goodPath.MatchString(w.Text)
	case 3:
		good = goodVariable.MatchString(w.Text)
	case 4:
		l, _, err := lex.Words(w.Text, 0)
		good = err == api.OK && len(l) == 1 && l[0].Kind == 4 && l[0].Text == w.Text
	case 5:
		good = len(w.Text) <= 4096
	}
	switch {
	case !good:
		return api.ErrSyntax
	case w.Kind != 5 && len(fieldName.FindAllString(w.Text, -1)) > 16:
		return api.ErrDepth
	}
	return api.OK
}

// refusal is where and why Parse should refuse l.
func refusal(l []lex.Word, at int) (int, api.Errno) {
	if len(l) == 0 {
		return at, api.ErrShort
	}
	var places []int
	var errs []api.Errno
	wrong := func(place int, err api.Errno) {
		if err != api.OK {
			places, errs = append(places, place), append(errs, err)
		}
	}
	calls, args, begin := 0, 0, 0
	function := ""
	ends := func(i int) { // the call whose words are those from begin to below i
		if i == begin {
			return
		}
		given := args
		if calls > 0 {
			given++
		}
		arity, ok := arities[function]
		if calls >= 16 || ok && (given < arity[0] || given > arity[1]) {
			wrong(l[begin].At, api.ErrCount)
		}
	}
	for i, w := range l {
		first := i == begin
		switch {
		case w.Kind == 6 && (w.Text == "|" || w.Text == ":="):
			ends(i)
			if first || w.Text == ":=" {
				wrong(w.At, api.ErrSyntax)
			}
			calls, args, begin, function = calls+1, 0, i+1, ""
		case first && w.Kind == 1 && !goodConstant.MatchString(w.Text):
			if function = w.Text; arities[function] == [2]int{} {
				wrong(w.At, api.ErrName)
			}
		case function == "" && (!first || calls > 0):
			wrong(w.At, api.ErrSyntax)
		default:
			wrong(w.At, argumentError(w))
			args++
		}
	}
	ends(len(l))
	if begin == len(l) {
		wrong(at, api.ErrSyntax)
	}
	if len(errs) == 0 {
		return at, api.OK
	}
	return places[0], errs[0]
}

// refusesAsShould holds Parse against the second reading, and what it takes against Print, Check and Same.
func refusesAsShould(t *testing.T, l []lex.Word, at int) {
	t.Helper()
	got, place, err := Parse(l, at)
	wantPlace, wantErr := refusal(l, at)
	if place != wantPlace || err != wantErr || err != api.OK && got != nil {
		t.Fatalf("P19.1: Parse of %s at %d is %s, %d, %d, not %d at %d", brief(l), at, brief(got), place, err, wantErr, wantPlace)
	}
	if err == api.OK {
		comesBack(t, got)
	}
}

// comesBack tells whether a pipeline that Parse made is read again as it.
func comesBack(t *testing.T, l []api.Call) {
	t.Helper()
	s := Print(l)
	again, _, err := lex.Words(s, 0)
	if err != api.OK {
		t.Fatalf("P19.3: Print of %s is no words: %.80q", brief(l), s)
	}
	if got, _, err := Parse(again, 0); err != api.OK || !alike(got, l) {
		t.Fatalf("P19.3: Print of %s is read as %s, %d", brief(l), brief(got), err)
	}
	if Check(l) != api.OK {
		t.Fatalf("P19.2: Check of %s, which Parse makes, is %d", brief(l), Check(l))
	}
	if !Same(l, filled(l)) {
		t.Fatalf("P19.2: %s is not the same as a copy of it", brief(l))
	}
}

// isMadeOfWords tells whether there are words of which Parse makes l: then those that stand for it are such.
func isMadeOfWords(l []api.Call) bool {
	again, _, err := lex.Words(Print(l), 0)
	if err != api.OK {
		return false
	}
	got, _, err := Parse(again, 0)
	return err == api.OK && alike(got, l)
}

// checksAsShould holds Check against what Parse makes.
func checksAsShould(t *testing.T, l []api.Call) {
	t.Helper()
	want := api.ErrState
	if isMadeOfWords(l) {
		want = api.OK
	}
	if got := Check(l); got != want {
		t.Fatalf("P19.2: Check of %s is %d, not %d", brief(l), got, want)
	}
}

// every is a text of all octets.
func every() string {
	out := make([]byte, 256)
	for i := range out {
		out[i] = byte(i)
	}
	return string(out)
}

// deep is a path of so many names.
func deep(count int) []string {
	return slices.Repeat([]string{"a"}, count)
}

// long is a name of 32 octets.
func long() string {
	return strings.Repeat("b", 32)
}

// fresh is s in octets that may be written to, and they read as a text.
func fresh(s string) ([]byte, string) {
	b := []byte(s)
	if len(b) == 0 {
		return nil, ""
	}
	return b, unsafe.String(&b[0], len(b))
}

// shares tells whether two texts have an octet of memory in common.
func shares(a string, b string) bool {
	if a == "" || b == "" {
		return false
	}
	from, to := uintptr(unsafe.Pointer(unsafe.StringData(a))), uintptr(unsafe.Pointer(unsafe.StringData(b)))
	return from < to+uintptr(len(b)) && to < from+uintptr(len(a))
}

// textsOf are the texts of a pipeline, and what lists stand in it.
func textsOf(l []api.Call) ([]string, []string) {
	var texts, lists []string
	for _, c := range l {
		texts = append(texts, c.Name)
		for _, a := range c.Args {
			texts = append(append(texts, a.Name, a.Text), a.Path...)
			if len(a.Path) > 0 {
				lists = append(lists, fmt.Sprintf("%p", a.Path))
			}
		}
		if len(c.Args) > 0 {
			lists = append(lists, fmt.Sprintf("%p", c.Args))
		}
	}
	return texts, lists
}
