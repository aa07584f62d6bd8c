package pipes

import (
	"math"
	"strings"
	"testing"

	"muslin/api"
	"muslin/lex"
	"muslin/number"
)

func TestArity(t *testing.T) { // P19.1
	for name, want := range arities {
		if least, most, ok := Arity(name); least != want[0] || most != want[1] || !ok {
			t.Errorf("P19.1: Arity(%q) is %d, %d, %t", name, least, most, ok)
		}
	}
	if len(arities) != 12 {
		t.Errorf("there are %d functions", len(arities))
	}
	for _, name := range []string{"", "Len", "PRINT", "Not", "iNdex", "true", "false", "nil", "foo", "le", "lenn", "len ", " len", "len\x00", "eq.", "lt|", "if", "range", "printf", "gt", "|", ":=", ".", "$", "0", `"len"`, every(), strings.Repeat("len", 10000)} {
		if least, most, ok := Arity(name); least != 0 || most != 0 || ok {
			t.Errorf("P19.1: Arity(%.80q) is %d, %d, %t", name, least, most, ok)
		}
	}
}

func TestNoWords(t *testing.T) { // P19.1
	for _, at := range []int{0, 1, 99, -1, math.MaxInt, math.MinInt} {
		for _, l := range [][]lex.Word{nil, {}} {
			if got, place, err := Parse(l, at); got != nil || place != at || err != api.ErrShort {
				t.Errorf("P19.1: Parse of no words at %d is %s, %d, %d", at, brief(got), place, err)
			}
		}
	}
}

func TestArgumentsAlone(t *testing.T) { // P19.1
	tells(t, ".", alone(dotted()))
	tells(t, ".a", alone(dotted("a")))
	tells(t, ".a.b_1.C", alone(dotted("a", "b_1", "C")))
	tells(t, ".true.len", alone(dotted("true", "len")))
	tells(t, "$", alone(named("")))
	tells(t, "$x", alone(named("x")))
	tells(t, "$.a.b", alone(named("", "a", "b")))
	tells(t, "$x.a", alone(named("x", "a")))
	tells(t, "$len.nil.b", alone(named("len", "nil", "b")))
	tells(t, "0", alone(numbered(0)))
	tells(t, "12", alone(numbered(12)))
	tells(t, "-12", alone(numbered(-12)))
	tells(t, number.Print(math.MaxInt), alone(numbered(math.MaxInt)))
	tells(t, number.Print(math.MinInt), alone(numbered(math.MinInt)))
	tells(t, `""`, alone(texted("")))
	tells(t, `"a b"`, alone(texted("a b")))
	tells(t, `"|"`, alone(texted("|")))
	tells(t, `":="`, alone(texted(":=")))
	tells(t, `"len"`, alone(texted("len")))
	tells(t, `"true"`, alone(texted("true")))
	tells(t, `"\n\t\\\""`, alone(texted("\n\t\\\"")))
	tells(t, lex.Quote(every()), alone(texted(every())))
	tells(t, "true", alone(api.Arg{Kind: 5}))
	tells(t, "false", alone(api.Arg{Kind: 6}))
	tells(t, "nil", alone(api.Arg{Kind: 7}))
}

func TestCallsOfFunctions(t *testing.T) { // P19.1
	tells(t, ".a | len", alone(dotted("a")), call("len")) // the chapter's example
	tells(t, `eq .a "x" | not`, call("eq", dotted("a"), texted("x")), call("not"))
	tells(t, "index $x.y -1|print true nil false", call("index", named("x", "y"), numbered(-1)), call("print", api.Arg{Kind: 5}, api.Arg{Kind: 7}, api.Arg{Kind: 6}))
	tells(t, "nil|default .", alone(api.Arg{Kind: 7}), call("default", dotted()))
	tells(t, "print . .a $ $x 0 \"\" true nil", call("print", dotted(), dotted("a"), named(""), named("x"), numbered(0), texted(""), api.Arg{Kind: 5}, api.Arg{Kind: 7}))
}

func TestHowManyArguments(t *testing.T) { // P19.1
	for _, name := range functions() {
		arity := arities[name]
		for count := range 12 {
			args, more := make([]api.Arg, count), strings.Repeat(" 7", count)
			for i := range args {
				args[i] = numbered(7)
			}
			first, behind, third := name+more, ". | "+name+more, "1|len|"+name+more+"|not"
			if arity[0] <= count && count <= arity[1] {
				tells(t, first, call(name, args...))
			} else {
				tellsNot(t, first, 0, api.ErrCount)
				tellsNot(t, first+"|len|foo", 0, api.ErrCount)
			}
			if arity[0] <= count+1 && count+1 <= arity[1] {
				tells(t, behind, alone(dotted()), call(name, args...))
				tells(t, third, alone(numbered(1)), call("len"), call(name, args...), call("not"))
			} else {
				tellsNot(t, behind, 4, api.ErrCount)
				tellsNot(t, third, 6, api.ErrCount)
			}
		}
	}
	tellsNot(t, "print"+strings.Repeat(" .", 100000), 0, api.ErrCount)
}

func TestWhatMayNotStandThere(t *testing.T) { // P19.1
	for _, word := range []string{".", ".a", "$", "$x", "$x.a", "0", "-1", `""`, `"a"`, "true", "false", "nil"} {
		n := len(word)
		tellsNot(t, ".|"+word, 2, api.ErrSyntax) // alone, but no first call
		tellsNot(t, "len .|"+word, 6, api.ErrSyntax)
		tellsNot(t, ".|len|"+word+"|len", 6, api.ErrSyntax)
		tellsNot(t, ".|"+word+" .", 2, api.ErrSyntax)
		tellsNot(t, ". "+word, 2, api.ErrSyntax) // one alone behind another
		tellsNot(t, word+" .", n+1, api.ErrSyntax)
		tellsNot(t, word+" len", n+1, api.ErrSyntax) // a name behind one alone
		tellsNot(t, word+" foo", n+1, api.ErrSyntax)
		tellsNot(t, word+" true|len", n+1, api.ErrSyntax)
		tellsNot(t, word+" .|foo", n+1, api.ErrSyntax)
		for _, name := range append(functions(), "foo", "True", "NIL", "_", long()) { // a name as an argument
			tellsNot(t, "print "+name, 6, api.ErrSyntax)
			tellsNot(t, "print "+word+" "+name, 7+n, api.ErrSyntax)
			tellsNot(t, word+"|print "+name+" "+word, n+7, api.ErrSyntax)
		}
	}
}

func TestNamesThatAreNoFunctions(t *testing.T) { // P19.1
	for _, name := range []string{"foo", "Len", "PRINT", "True", "NIL", "_", "if", "range", "end", "template", long()} {
		tellsNot(t, name, 0, api.ErrName)
		tellsNot(t, name+" .", 0, api.ErrName)
		tellsNot(t, name+" foo", 0, api.ErrName)
		tellsNot(t, name+"|", 0, api.ErrName)
		tellsNot(t, name+" := 1", 0, api.ErrName)
		tellsNot(t, ".|"+name, 2, api.ErrName)
		tellsNot(t, ".|len|"+name+" 1|len", 6, api.ErrName)
		tellsNot(t, ".|len|"+name+"|", 6, api.ErrName)
	}
}

func TestPipes(t *testing.T) { // P19.1
	for _, ahead := range []string{".", "len .", "true", "$x|not", `"|"|len|print 1`} {
		n := len(ahead)
		tellsNot(t, ahead+"|", -1, api.ErrSyntax) // at the end
		tellsNot(t, ahead+" | ", -1, api.ErrSyntax)
		tellsNot(t, ahead+"||len", n+1, api.ErrSyntax)
		tellsNot(t, ahead+"|  |", n+3, api.ErrSyntax)
		tellsNot(t, ahead+"|len||len", n+5, api.ErrSyntax)
		tellsNot(t, "|"+ahead, 0, api.ErrSyntax)
		tellsNot(t, "||"+ahead, 0, api.ErrSyntax)
	}
	tellsNot(t, "|", 0, api.ErrSyntax)
	tellsNot(t, "  |  ", 2, api.ErrSyntax)
	tellsNot(t, "||", 0, api.ErrSyntax)
	tellsNot(t, "|foo", 0, api.ErrSyntax)
	tellsNot(t, "len|", 0, api.ErrCount) // a | ends its call, which is told ahead of it
	tellsNot(t, "len||", 0, api.ErrCount)
	tellsNot(t, ".|len .|", 2, api.ErrCount)
	tellsNot(t, ".|len .||", 2, api.ErrCount)
	tellsNot(t, "foo||", 0, api.ErrName)
	tellsNot(t, ". .|", 2, api.ErrSyntax)
}

func TestDeclarations(t *testing.T) { // P19.1
	tellsNot(t, ":=", 0, api.ErrSyntax)
	tellsNot(t, ":= .", 0, api.ErrSyntax)
	tellsNot(t, ":=|", 0, api.ErrSyntax)
	tellsNot(t, "$x := .", 3, api.ErrSyntax)
	tellsNot(t, "$x :=", 3, api.ErrSyntax)
	tellsNot(t, "$x := foo", 3, api.ErrSyntax)
	tellsNot(t, "len . :=", 6, api.ErrSyntax)
	tellsNot(t, "len . := . | foo", 6, api.ErrSyntax)
	tellsNot(t, ". | :=", 4, api.ErrSyntax)
	tellsNot(t, ". | := len", 4, api.ErrSyntax)
	tellsNot(t, ". | len := .", 8, api.ErrSyntax)
	tellsNot(t, ".|:=|", 2, api.ErrSyntax)
	tellsNot(t, ":= :=", 0, api.ErrSyntax)
	tellsNot(t, "len := .", 0, api.ErrCount) // of its call, which is told ahead of it
	tellsNot(t, "len :=", 0, api.ErrCount)
	tellsNot(t, "len . . :=", 0, api.ErrCount)
	tellsNot(t, ". | eq := .", 4, api.ErrCount)
	tellsNot(t, ". | eq . . :=", 4, api.ErrCount)
	tellsNot(t, "foo :=", 0, api.ErrName)
	tellsNot(t, "len foo :=", 4, api.ErrSyntax)
	tellsNot(t, ". . :=", 2, api.ErrSyntax)
}

func TestDeepPaths(t *testing.T) { // P19.1, Limits
	path := strings.Repeat(".a", 16)
	tells(t, path, alone(dotted(deep(16)...)))
	tells(t, "$"+path, alone(named("", deep(16)...)))
	tells(t, "$x"+path, alone(named("x", deep(16)...)))
	tells(t, "print "+path+" $"+path+" $x"+path, call("print", dotted(deep(16)...), named("", deep(16)...), named("x", deep(16)...)))
	for _, deeper := range []string{path + ".b", path + path, strings.Repeat(path, 500)} {
		for _, word := range []string{deeper, "$" + deeper, "$x" + deeper} {
			tellsNot(t, word, 0, api.ErrDepth)
			tellsNot(t, word+"|", 0, api.ErrDepth)
			tellsNot(t, word+" foo", 0, api.ErrDepth)
			tellsNot(t, "len "+word, 4, api.ErrDepth)
			tellsNot(t, "len . "+word, 6, api.ErrDepth) // ahead of ErrCount
			tellsNot(t, "len "+word+" foo", 4, api.ErrDepth)
			tellsNot(t, "len foo "+word, 4, api.ErrSyntax)
			tellsNot(t, "foo "+word, 0, api.ErrName)
			tellsNot(t, ". "+word, 2, api.ErrSyntax)  // may not stand there
			tellsNot(t, ".|"+word, 2, api.ErrSyntax)  // nor there
			tellsNot(t, "len|"+word, 0, api.ErrCount) // of the call ahead
			tellsNot(t, ".|len "+word, 6, api.ErrDepth)
			tellsNot(t, "print "+word+" "+word, 6, api.ErrDepth)
			tellsNot(t, word+" "+word, 0, api.ErrDepth)
			tellsNot(t, "len 1|eq "+word+" foo", 9, api.ErrDepth)
			tellsNot(t, "len 1|eq foo "+word, 9, api.ErrSyntax)
			tellsNot(t, "len"+word+"|len", 3, api.ErrDepth)
		}
	}
	tells(t, lex.Quote(path+path+".b"), alone(texted(path+path+".b")))
}

func TestManyCalls(t *testing.T) { // P19.1, Limits
	for count := 1; count <= 16; count++ {
		want := []api.Call{alone(dotted())}
		for range count - 1 {
			want = append(want, call("len"))
		}
		tells(t, "."+strings.Repeat("|len", count-1), want...)
		want[0] = call("len", dotted())
		tells(t, "len ."+strings.Repeat("|len", count-1), want...)
	}
	most := "." + strings.Repeat("|len", 15)
	n := len(most)
	tellsNot(t, most+"|", -1, api.ErrSyntax)
	tellsNot(t, most+"||", n+1, api.ErrSyntax)
	tellsNot(t, most+" :=", n+1, api.ErrSyntax)
	for _, more := range []string{"len", "eq .", "print 1 2", "len|len", "len|foo", "len|", "len||", "len :=", "len|.", "len .", "print 1 2 3 4 5 6 7 8", strings.Repeat("not|", 100000)} {
		tellsNot(t, most+"|"+more, n+1, api.ErrCount)
	}
	tellsNot(t, most+"|foo", n+1, api.ErrName)
	tellsNot(t, most+"|.", n+1, api.ErrSyntax)
	tellsNot(t, most+"|true", n+1, api.ErrSyntax)
	tellsNot(t, most+"|len foo", n+5, api.ErrSyntax) // behind the errors of all words of its call
	tellsNot(t, most+"|eq "+strings.Repeat(".a", 17), n+4, api.ErrDepth)
	tellsNot(t, most+" .|len", n-3, api.ErrCount) // of the call ahead
}

func TestTheFirstErrorCounts(t *testing.T) { // P19.1, P4
	tellsNot(t, "len foo foo", 4, api.ErrSyntax)
	tellsNot(t, "foo bar", 0, api.ErrName)
	tellsNot(t, "len|foo", 0, api.ErrCount) // one call ahead of the other
	tellsNot(t, "len 1|foo|bar", 6, api.ErrName)
	tellsNot(t, "len 1 2|foo", 0, api.ErrCount)
	tellsNot(t, "len 1 2 foo|foo", 8, api.ErrSyntax) // words ahead of their call's count
	tellsNot(t, "len 1|len 1|.", 6, api.ErrCount)
	tellsNot(t, "eq 1|eq", 0, api.ErrCount)
	tellsNot(t, "eq 1 1|eq", 7, api.ErrCount)
	tellsNot(t, "eq 1 1|eq 1 1", 7, api.ErrCount)
	tellsNot(t, "eq 1 1|eq 1 foo", 12, api.ErrSyntax)
}

func TestPlacesAreThoseOfWords(t *testing.T) { // P19.1
	for _, place := range []int{0, 5, -5, math.MaxInt, math.MinInt} {
		refused := []struct {
			l    []lex.Word
			want api.Errno
		}{
			{[]lex.Word{{Kind: 6, Text: "|", At: place}}, api.ErrSyntax},
			{[]lex.Word{{Kind: 6, Text: ":=", At: place}}, api.ErrSyntax},
			{[]lex.Word{{Kind: 1, Text: "foo", At: place}}, api.ErrName},
			{[]lex.Word{{Kind: 1, Text: "len", At: place}}, api.ErrCount},
			{[]lex.Word{{Kind: 1, Text: "eq", At: place}, {Kind: 4, Text: "1", At: 77}}, api.ErrCount},
			{[]lex.Word{{Kind: 4, Text: "1", At: 77}, {Kind: 4, Text: "1", At: place}}, api.ErrSyntax},
			{[]lex.Word{{Kind: 2, Text: strings.Repeat(".a", 17), At: place}}, api.ErrDepth},
		}
		for _, c := range refused {
			if got, at, err := Parse(c.l, 88); got != nil || at != place || err != c.want {
				t.Errorf("P19.1: Parse of %s is %s, %d, %d, not %d at %d", brief(c.l), brief(got), at, err, c.want, place)
			}
		}
		end := []lex.Word{{Kind: 4, Text: "1", At: 77}, {Kind: 6, Text: "|", At: 78}}
		if got, at, err := Parse(end, place); got != nil || at != place || err != api.ErrSyntax {
			t.Errorf("P19.1: Parse of a | at the end at %d is %s, %d, %d", place, brief(got), at, err)
		}
	}
}

func TestWordsThatLexDoesNotMake(t *testing.T) { // P19.1
	var odd []lex.Word
	for _, kind := range []int{-1, 0, 7, 8, 100, math.MaxInt, math.MinInt} {
		for _, text := range []string{"", "len", ".", "$", "1", "|", ":=", "true"} {
			odd = append(odd, lex.Word{Kind: kind, Text: text})
		}
	}
	for kind, texts := range map[int][]string{
		2: {"", "a", "a.b", "..", ".a.", "..a", ".a..b", ".1", ". a", ".a b", ".é", "." + long() + "b", ".a." + long() + "b", "$", "$x", "1", "|", "true", strings.Repeat(".a", 20) + ".", strings.Repeat(".a", 20) + ".1", every()},
		3: {"", "x", ".", ".a", "$.", "$x.", "$..", "$x..a", "$1", "$ x", "$x y", "$x. a", "$x.1", "$é", "$x.é", "$" + long() + "b", "$." + long() + "b", "$$", "x$", "$x$y", "1", "true", "$" + strings.Repeat(".a", 20) + ".1", "$1" + strings.Repeat(".a", 20), every()},
		4: {"", "-", "a", "01", "-0", "+1", "1.5", " 1", "1 ", "1e3", "0x1", "9223372036854775808", "-9223372036854775809", "true", strings.Repeat("1", 5000), every()},
		5: {strings.Repeat("a", 4097), strings.Repeat("\n", 100000)},
		6: {"", ":", "=", "||", "| ", "::=", ":==", "|:=", ".", "len", every()},
	} {
		for _, text := range texts {
			odd = append(odd, lex.Word{Kind: kind, Text: text})
		}
	}
	ahead := [][]lex.Word{nil, words(t, "len", 0), words(t, "print 1", 0), words(t, ".|", 0), words(t, ".|len", 0), words(t, "true", 0)}
	behind := [][]lex.Word{nil, words(t, ".", 100), words(t, "|len", 100), words(t, "|", 100), words(t, ":= 1", 100), words(t, "foo", 100)}
	for _, w := range odd {
		w.At = 55
		for _, a := range ahead {
			for _, b := range behind {
				l := append(append(append([]lex.Word{}, a...), w), b...)
				if got, at, err := Parse(l, 9); got != nil || at != 55 || err != api.ErrSyntax {
					t.Errorf("P19.1: Parse of %s is %s, %d, %d, not ErrSyntax at 55", brief(l), brief(got), at, err)
				}
				refusesAsShould(t, l, 9)
			}
		}
	}
	for _, name := range []string{"", "é", "a b", "1", "len ", "|", long() + "b", every()} { // names that are none are no functions
		first := []lex.Word{{Kind: 1, Text: name, At: 55}}
		if got, at, err := Parse(first, 9); got != nil || at != 55 || err != api.ErrName {
			t.Errorf("P19.1: Parse of %s is %s, %d, %d", brief(first), brief(got), at, err)
		}
		second := append(words(t, "len", 0), first...)
		if got, at, err := Parse(second, 9); got != nil || at != 55 || err != api.ErrSyntax {
			t.Errorf("P19.1: Parse of %s is %s, %d, %d", brief(second), brief(got), at, err)
		}
	}
}

func TestAllSmallLists(t *testing.T) { // P19.1 to P19.3
	some := []lex.Word{
		{Kind: 1, Text: "len"}, {Kind: 1, Text: "eq"}, {Kind: 1, Text: "print"}, {Kind: 1, Text: "foo"}, {Kind: 1, Text: "nil"},
		{Kind: 2, Text: ".a.b"}, {Kind: 2, Text: strings.Repeat(".a", 17)}, {Kind: 3, Text: "$x"}, {Kind: 4, Text: "-7"}, {Kind: 5, Text: "\""},
		{Kind: 6, Text: "|"}, {Kind: 6, Text: ":="}, {Kind: 0, Text: "|"},
	}
	var grow func(l []lex.Word)
	grow = func(l []lex.Word) {
		refusesAsShould(t, l, 1000)
		if len(l) == 5 {
			return
		}
		for _, w := range some {
			w.At = 10 * len(l)
			grow(append(l[:len(l):len(l)], w))
		}
	}
	grow(nil)
}
