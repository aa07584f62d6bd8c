package literal

import (
	"math"
	"strconv"
	"strings"

	"muslin/api"
)

const mostDeep = 1 << 16 // as deep as the document's Limits go

func kindOf(kind int) api.Value { return api.Value{Kind: kind} }

func says(kind int, s string) api.Value { return api.Value{Kind: kind, Text: s} }

func intOf(n int) api.Value { return api.Value{Kind: 3, Int: n} }

func textOf(s string) api.Value { return api.Value{Kind: 4, Text: s} }

func listOf(l ...api.Value) api.Value { return api.Value{Kind: 5, List: l} }

func recordOf(keys string, l ...api.Value) api.Value {
	return api.Value{Kind: 6, Keys: strings.Fields(keys), List: l}
}

func keyed(keys []string, l ...api.Value) api.Value {
	return api.Value{Kind: 6, Keys: keys, List: l}
}

// nest answers v within count others, each of which around makes.
func nest(count int, v api.Value, around func(v api.Value) api.Value) api.Value {
	for range count {
		v = around(v)
	}
	return v
}

func inList(v api.Value) api.Value { return listOf(v) }

func inRecord(v api.Value) api.Value { return recordOf("k", v) }

func inNoKey(v api.Value) api.Value { return recordOf("", v) }

func inBoth(v api.Value) api.Value {
	if v.Kind == 5 {
		return recordOf("k", v)
	}
	return listOf(v)
}

// many answers count values, and count names for them, which rise.
func many(count int) ([]api.Value, []string) {
	list, keys := make([]api.Value, count), make([]string, count)
	for i := range count {
		list[i], keys[i] = intOf(i), "k"+strconv.Itoa(100000+i)
	}
	return list, keys
}

func noKinds() []int {
	return []int{-1, -2, -4, -5, -6, -7, -12, 12, 13, 14, 16, 255, 256, 260, 261, 1 << 31, 1<<32 + 4, 1<<32 + 5, -1 << 31, math.MaxInt, math.MinInt}
}

// oddTexts are texts for the promises that hold of any text.
func oddTexts() []string {
	every := make([]byte, 256)
	for i := range every {
		every[i] = byte(i)
	}
	return []string{
		"", " ", "a", "Z", "0", "_", ".", ",", "-", "\"", "\\", "/", "<", ">", "&", "'", "`", "\x00", "\x7f", "\x80", "\xff", "é", "\u2028", "\ufffd", "\ufffe", "\uffff", "\U00010000", "\U0010ffff", "😀",
		"a b_c.d,e9", "</script>", "<!--", "]]>", "a\nb\r\t", "\\u0061", "\"\\\"", "null", "[1,2]", "\xed\xa0\x80", "\xc3", "é\xc3é", "\xf0\x9f\x98", "\xc0\x80", "\xf4\x90\x80\x80", "a\x00b\xffc",
		string(every), strings.Repeat("x", api.MaxValue), strings.Repeat("<", api.MaxValue+1), strings.Repeat("é", 1<<12),
	}
}

// readable are values of Kinds 0 to 6 whose literals say all that they are: texts are repaired, no key is without its value, what a Kind does not use is zero.
func readable() []api.Value {
	long, longer := strings.Repeat("x", api.MaxValue), strings.Repeat("<", api.MaxValue+1)
	list, keys := many(api.MaxItems + 1)
	out := []api.Value{
		kindOf(0), kindOf(1), kindOf(2), intOf(0), intOf(1), intOf(-1), intOf(10), intOf(-10), intOf(math.MaxInt), intOf(math.MinInt), intOf(math.MinInt + 1), intOf(1 << 32),
		textOf(""), textOf("a"), textOf("null"), textOf("]"), textOf(":"), textOf("é<\u2028\uffff😀\U0010ffff\ufffd"), textOf("\x01\x1f \x7f\u0080"), textOf(long), textOf(longer),
		listOf(), listOf(kindOf(0)), listOf(listOf()), listOf(recordOf("")), listOf(kindOf(1), intOf(-5), textOf("x y"), kindOf(2), intOf(-6), listOf(intOf(1), listOf(), intOf(2)), textOf("")),
		recordOf(""), recordOf("a", kindOf(0)), recordOf("a", recordOf("a", recordOf("a", recordOf("")))), recordOf("a b c", listOf(), recordOf(""), textOf("")),
		recordOf("a b", listOf(recordOf("x y", intOf(-1), textOf("t")), intOf(2)), recordOf("c", listOf(intOf(-7)))), listOf(recordOf("a", intOf(1)), recordOf("a", intOf(2))),
		recordOf("b a", intOf(1), intOf(2)), recordOf("a a", intOf(1), intOf(1)), keyed([]string{""}, intOf(1)), keyed([]string{"1", "x y", "é<😀", "\"", "a:b"}, intOf(1), textOf("2"), intOf(-3), listOf(), recordOf("")),
		keyed([]string{strings.Repeat("k", api.MaxName+1)}, kindOf(2)), keyed([]string{longer}, kindOf(2)),
		recordOf("", intOf(1)), recordOf("", textOf("a")), recordOf("", textOf("a"), textOf("b")), recordOf("a", intOf(1), intOf(2)), recordOf("a", textOf("x"), textOf("y"), recordOf("", textOf("z"))), recordOf("", recordOf("")),
		listOf(list[:api.MaxItems]...), listOf(list...), keyed(keys[:api.MaxItems], list[:api.MaxItems]...), keyed(keys, list...),
		nest(api.MaxNest, intOf(-1), inList), nest(api.MaxNest, textOf("<"), inRecord), nest(api.MaxNest, kindOf(0), inBoth), nest(api.MaxNest, intOf(3), inNoKey), nest(api.MaxNest-1, listOf(), inRecord), nest(api.MaxNest-1, recordOf(""), inList),
	}
	for n := 9; n < math.MaxInt/11; n = n*10 + 9 {
		out = append(out, intOf(n), intOf(n+1), intOf(-n), intOf(-n-1))
	}
	return out
}

// oddValues are values for the promises that hold of any value.
func oddValues() []api.Value {
	list, keys := many(4)
	out := append(readable(),
		api.Value{Int: 1, Text: "t", List: list, Keys: keys}, api.Value{Kind: 3, Int: 4, Text: "t", List: list, Keys: keys}, api.Value{Kind: 4, Int: 4, Text: "t", List: list, Keys: keys},
		api.Value{Kind: 5, Int: 4, Text: "t", List: list, Keys: keys}, api.Value{Kind: 6, Int: 4, Text: "t", List: list, Keys: keys[:2]}, api.Value{Kind: 6, List: list[:2], Keys: keys}, api.Value{Kind: 6, Keys: keys},
		says(7, "<b>"), says(8, "a='b'"), says(9, "http://a/"), says(10, "f()"), says(11, "a:b"), listOf(says(7, "\xff"), recordOf("a b", says(11, "\x00"), says(12, "y"))),
		nest(api.MaxNest+1, intOf(1), inBoth), nest(100, says(10, "deep"), inRecord), keyed([]string{"\xff", "\x00"}, intOf(1), textOf("\xff")),
	)
	for _, kind := range noKinds() {
		out = append(out, kindOf(kind), says(kind, "odd<"), api.Value{Kind: kind, Int: 7, List: list, Keys: keys}, listOf(says(kind, "odd")), recordOf("k", kindOf(kind)))
	}
	return out
}
