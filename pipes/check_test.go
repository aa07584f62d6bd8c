package pipes

import (
	"math"
	"slices"
	"strings"
	"testing"

	"muslin/api"
	"muslin/lex"
)

// prints tells whether Print answers that text.
func prints(t *testing.T, want string, l ...api.Call) {
	t.Helper()
	if got := Print(l); got != want {
		t.Errorf("P19.2: Print of %s is %.100q, not %.100q", brief(l), got, want)
	}
}

// good are pipelines that Parse makes.
func good() [][]api.Call {
	most := []api.Call{alone(dotted())}
	for range 15 {
		most = append(most, call("len"))
	}
	out := [][]api.Call{
		most,
		{alone(dotted())}, {alone(dotted("a"))}, {alone(dotted(deep(16)...))}, {alone(dotted(long(), "_", "A1"))},
		{alone(named(""))}, {alone(named("x"))}, {alone(named(long(), deep(16)...))}, {alone(named("", "a", "b"))},
		{alone(numbered(0))}, {alone(numbered(math.MaxInt))}, {alone(numbered(math.MinInt))}, {alone(numbered(-1))},
		{alone(texted(""))}, {alone(texted("a"))}, {alone(texted(every()))}, {alone(texted("\"\\\n\t\r\x00"))}, {alone(texted(strings.Repeat("\\", 4096)))}, {alone(texted(`\n\"`))},
		{alone(api.Arg{Kind: 5})}, {alone(api.Arg{Kind: 6})}, {alone(api.Arg{Kind: 7})},
		{alone(dotted("a")), call("len")},
		{alone(numbered(1)), call("print", numbered(-2), texted("|")), call("not")},
		{call("print", dotted(), dotted("a"), named(""), named("", "a"), named("x"), named("x", "a"), numbered(3), texted("t"))},
		{call("print", api.Arg{Kind: 5}, api.Arg{Kind: 6}, api.Arg{Kind: 7}, texted(""), texted("true"), texted("."), texted("$"), texted(":="))},
		{call("eq", dotted(), dotted()), call("default", dotted()), call("index", dotted()), call("upper")},
	}
	for _, name := range functions() {
		arity := arities[name]
		for count := arity[0]; count <= arity[1]; count++ {
			args := make([]api.Arg, count)
			for i := range args {
				args[i] = dotted("a", "b")
			}
			out = append(out, []api.Call{call(name, args...)}, []api.Call{alone(numbered(5)), call(name, args[:count-1]...)})
		}
	}
	return out
}

// bad are pipelines that Parse doesn't make.
func bad() [][]api.Call {
	seventeen := []api.Call{alone(dotted())}
	for range 16 {
		seventeen = append(seventeen, call("len"))
	}
	a := dotted()
	out := [][]api.Call{
		nil, {}, seventeen, make([]api.Call, 100000),
		{{}}, {call("")}, {call("", a, a)}, {call("", a), {}}, {call("", a), call("", a)}, {call("len", a), call("", a)}, {call("", a), call("len"), call("", a)},
		{call("len")}, {call("foo", a)}, {call("Len", a)}, {call("true", a)}, {call("nil")}, {call("len ", a)}, {call("|", a)}, {call(" ", a)}, {call(".")}, {call(long()+"b", a)}, {call(every(), a)},
		{alone(a), call("foo")}, {alone(a), call("len"), call("foo")}, {call("foo"), call("len")},
		{alone(texted(strings.Repeat("a", 4097)))}, {call("print", a, texted(strings.Repeat("a", 100000)))}, {alone(a), call("eq", texted(strings.Repeat("a", 4097)))},
		{alone(dotted(deep(17)...))}, {alone(named("", deep(17)...))}, {alone(named("x", deep(17)...))}, {call("len", dotted(deep(100000)...))}, {alone(a), call("eq", named("", deep(17)...))},
	}
	for _, name := range functions() {
		arity := arities[name]
		for _, count := range []int{arity[0] - 1, arity[1] + 1, 20} {
			args := slices.Repeat([]api.Arg{a}, count)
			out = append(out, []api.Call{call(name, args...)}, []api.Call{call(name, args...), call("len")})
			if count > 0 {
				out = append(out, []api.Call{alone(a), call(name, args[1:]...), call("len")}[:2+count%2])
			}
		}
		out = append(out, []api.Call{alone(a), call(name, slices.Repeat([]api.Arg{a}, arity[1])...)})
	}
	for _, kind := range []int{0, -1, 8, 9, 100, math.MaxInt, math.MinInt} {
		odd := api.Arg{Kind: kind}
		out = append(out, []api.Call{alone(odd)}, []api.Call{call("len", odd)}, []api.Call{call("print", a, odd)}, []api.Call{alone(a), call("eq", odd)})
	}
	for _, name := range []string{"", " ", "1", "a b", "a.b", ".", "$", "é", "a\x00", "a-", long() + "b", every()} {
		out = append(out, []api.Call{alone(dotted(name))}, []api.Call{alone(dotted("a", name))}, []api.Call{alone(dotted(name, "a"))}, []api.Call{call("len", named("x", name))}, []api.Call{alone(a), call("eq", named("", "a", name, "b"))})
		if name != "" {
			out = append(out, []api.Call{alone(named(name))}, []api.Call{call("print", a, named(name, "a"))})
		}
	}
	return out
}

func TestPrint(t *testing.T) { // P19.2
	prints(t, ".a | len", alone(dotted("a")), call("len"))
	prints(t, "print . .a .a.b $ $.a $x $x.a.b", call("print", dotted(), dotted("a"), dotted("a", "b"), named(""), named("", "a"), named("x"), named("x", "a", "b")))
	prints(t, `print 0 -1 "" "a b" true false nil | default "\n\t\\\"" | not`, call("print", numbered(0), numbered(-1), texted(""), texted("a b"), api.Arg{Kind: 5}, api.Arg{Kind: 6}, api.Arg{Kind: 7}), call("default", texted("\n\t\\\"")), call("not"))
	prints(t, "-9223372036854775808", alone(numbered(math.MinInt)))
	prints(t, lex.Quote(every()), alone(texted(every())))
	for s, want := range map[string]string{
		".a|len": ".a | len", "  print\t.\n$x.a  ": "print . $x.a", `"a"|eq"b"`: `"a" | eq "b"`, "1|print-1": "1 | print -1", "print 1 2|print true nil|upper": "print 1 2 | print true nil | upper",
	} {
		prints(t, want, read(t, s)...)
	}
}

func TestPrintOfWhatParseDoesNotMake(t *testing.T) { // P19.2, P1
	for _, l := range bad() {
		Print(l)
	}
	prints(t, "")
	prints(t, ". .", call("", dotted(), dotted()))
	prints(t, "foo 1 | $a b.c", call("foo", numbered(1)), alone(named("a b", "c")))
}

func TestCheck(t *testing.T) { // P19.2, P19.3
	for _, l := range good() {
		if got := Check(l); got != api.OK {
			t.Errorf("P19.2: Check of %s is %d", brief(l), got)
		}
		comesBack(t, l)
		checksAsShould(t, l)
	}
	for _, l := range bad() {
		if got := Check(l); got != api.ErrState {
			t.Errorf("P19.2: Check of %s is %d, not ErrState", brief(l), got)
		}
		checksAsShould(t, l)
	}
}

func TestCheckOfFieldsThatAKindDoesNotHave(t *testing.T) { // P19.2
	puts := map[string]func(a *api.Arg){
		"N": func(a *api.Arg) { a.Name = "n" },
		"P": func(a *api.Arg) { a.Path = []string{"p"} },
		"I": func(a *api.Arg) { a.Int = -1 },
		"T": func(a *api.Arg) { a.Text = "t" },
		"":  func(a *api.Arg) { a.Path = []string{} }, // empty lists are as none
	}
	has := []string{1: "P", 2: "NP", 3: "I", 4: "T", 7: ""}
	for kind := 1; kind <= 7; kind++ {
		for field, put := range puts {
			arg, want := api.Arg{Kind: kind}, api.ErrState
			put(&arg)
			if strings.Contains(has[kind], field) {
				want = api.OK
			}
			for _, l := range [][]api.Call{{alone(arg)}, {call("len", arg)}, {call("print", dotted(), arg, dotted())}, {alone(dotted()), call("eq", arg), call("len")}} {
				if got := Check(l); got != want {
					t.Errorf("P19.2: Check of %s is %d, not %d", brief(l), got, want)
				}
				checksAsShould(t, l)
			}
		}
	}
	arg := api.Arg{Kind: 5, Name: "true"}
	if got := Check([]api.Call{alone(arg)}); got != api.ErrState {
		t.Errorf("P19.2: Check of a true with its name is %d", got)
	}
}

func TestCheckOfAllSmallCalls(t *testing.T) { // P19.2
	args := []api.Arg{dotted(), named("x", "a"), named("x", "1"), texted("\n"), {Kind: 6}, {Kind: 7, Int: 1}, {}}
	var lists [][]api.Arg
	for count := range 4 {
		for n := range []int{1, 7, 49, 343}[count] {
			var list []api.Arg
			for range count {
				list, n = append(list, args[n%7]), n/7
			}
			lists = append(lists, list)
		}
	}
	var calls []api.Call
	for _, name := range []string{"", "len", "eq", "print", "foo", "nil"} {
		for _, list := range lists {
			calls = append(calls, call(name, list...))
		}
	}
	for _, one := range calls {
		checksAsShould(t, []api.Call{one})
		checksAsShould(t, []api.Call{alone(dotted()), one})
		checksAsShould(t, []api.Call{one, call("len")})
		checksAsShould(t, []api.Call{one, alone(dotted())})
	}
}

func TestSame(t *testing.T) { // P19.2
	all := append(append(good(), bad()...), []api.Call{{Args: []api.Arg{{Kind: 1, Name: "n", Path: []string{"p"}, Int: 1, Text: "t"}}}})
	for i, a := range all {
		for j, b := range all {
			if got, want := Same(a, b), len(a) == len(b) && (i == j || alike(a, b)); got != want {
				t.Errorf("P19.2: Same of %s and %s is %t", brief(a), brief(b), got)
			}
		}
		if !Same(a, filled(a)) || !Same(filled(a), a) {
			t.Errorf("P19.2: Same of %s and its copy is false", brief(a))
		}
	}
}

func TestSameOfEachField(t *testing.T) { // P19.2
	made := func() []api.Call {
		return []api.Call{call("len", dotted()), {Name: "n", Args: []api.Arg{dotted(), {Kind: 1, Name: "a", Path: []string{"b", "c"}, Int: 2, Text: "d"}}}}
	}
	changes := []func(l []api.Call) []api.Call{
		func(l []api.Call) []api.Call { return l[:1] },
		func(l []api.Call) []api.Call { return l[1:] },
		func(l []api.Call) []api.Call { return append(l, api.Call{}) },
		func(l []api.Call) []api.Call { return []api.Call{l[1], l[0]} },
		func(l []api.Call) []api.Call { l[0].Name = "Len"; return l },
		func(l []api.Call) []api.Call { l[1].Name = ""; return l },
		func(l []api.Call) []api.Call { l[0].Args = nil; return l },
		func(l []api.Call) []api.Call { l[1].Args = l[1].Args[:1]; return l },
		func(l []api.Call) []api.Call { l[1].Args = append(l[1].Args, api.Arg{}); return l },
		func(l []api.Call) []api.Call { l[1].Args[1].Kind = 2; return l },
		func(l []api.Call) []api.Call { l[1].Args[1].Name = ""; return l },
		func(l []api.Call) []api.Call { l[1].Args[1].Int = -2; return l },
		func(l []api.Call) []api.Call { l[1].Args[1].Text = "D"; return l },
		func(l []api.Call) []api.Call { l[1].Args[1].Path = nil; return l },
		func(l []api.Call) []api.Call { l[1].Args[1].Path[0] = "B"; return l },
		func(l []api.Call) []api.Call { l[1].Args[1].Path[1] = ""; return l },
		func(l []api.Call) []api.Call { l[1].Args[1].Path = append(l[1].Args[1].Path, ""); return l },
		func(l []api.Call) []api.Call { l[1].Args[0], l[1].Args[1] = l[1].Args[1], l[1].Args[0]; return l },
	}
	if !Same(made(), made()) {
		t.Error("P19.2: two that are one are not the same")
	}
	for i, change := range changes {
		if Same(made(), change(made())) || Same(change(made()), made()) {
			t.Errorf("P19.2: Same does not see change %d", i)
		}
	}
	for _, a := range [][]api.Call{nil, {}} {
		for _, b := range [][]api.Call{nil, {}} {
			if !Same(a, b) {
				t.Error("P1: nil and empty lists are not one to Same")
			}
		}
	}
	empty := api.Call{Name: "a", Args: []api.Arg{{Path: []string{}}}}
	if !Same([]api.Call{empty, {Args: []api.Arg{}}}, []api.Call{call("a", api.Arg{}), {}}) {
		t.Error("P1: nil and empty lists within a pipeline are not one to Same")
	}
}
