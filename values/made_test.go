package values

import (
	"math"
	"strconv"
	"strings"

	"muslin/api"
)

const mostDeep = 1 << 16 // as deep as the document's Limits go

func kindOf(kind int) api.Value { return api.Value{Kind: kind} }

func says(kind int, s string) api.Value { return api.Value{Kind: kind, Text: s} }

func listOf(l ...api.Value) api.Value { return api.Value{Kind: 5, List: l} }

func recordOf(keys string, l ...api.Value) api.Value {
	return api.Value{Kind: 6, Keys: strings.Fields(keys), List: l}
}

// nest answers v within count others, each of which around makes.
func nest(count int, v api.Value, around func(v api.Value) api.Value) api.Value {
	for range count {
		v = around(v)
	}
	return v
}

func inList(v api.Value) api.Value { return listOf(v) }

func inRecord(v api.Value) api.Value { return recordOf("k", v) }

func inBoth(v api.Value) api.Value {
	if v.Kind == 5 {
		return recordOf("k", v)
	}
	return listOf(v)
}

// many answers count values, and count names for them, which rise.
func many(count int) ([]api.Value, []string) {
	list, keys := make([]api.Value, count), make([]string, count)
	for i := range count {
		list[i], keys[i] = api.Value{Kind: 3, Int: i}, "k"+strconv.Itoa(100000+i)
	}
	return list, keys
}

func noKinds() []int {
	return []int{-1, -2, -4, -5, -6, -7, -12, 12, 13, 14, 16, 255, 256, 260, 1 << 31, 1<<32 + 4, 1<<32 + 5, -1 << 31, math.MaxInt, math.MinInt}
}

// smallValues are all values of few fields: Kinds that are and that are none, with what they use and what they do not use.
func smallValues() []api.Value {
	var out []api.Value
	lists := [][]api.Value{nil, {}, {{}}, {{Kind: 12}}, {{Kind: 7, Text: "s"}, {Kind: 3, Int: -5}}}
	keys := [][]string{nil, {}, {"a"}, {"a", "b"}, {"b", "a"}, {"a", "a"}, {"a", "1"}, {"", "a"}}
	for kind := -2; kind <= 13; kind++ {
		for n := range 2 {
			for _, s := range []string{"", "x"} {
				for _, l := range lists {
					for _, k := range keys {
						out = append(out, api.Value{Kind: kind, Int: -n, Text: s, List: l, Keys: k})
					}
				}
			}
		}
	}
	return out
}

// oddValues are values for the promises that hold of any value.
func oddValues() []api.Value {
	long, longer := strings.Repeat("x", api.MaxValue), strings.Repeat("x", api.MaxValue+1)
	list, keys := many(api.MaxItems + 1)
	out := []api.Value{
		{}, {Kind: 1}, {Kind: 2}, {Kind: 3, Int: math.MinInt}, {Kind: 3, Int: math.MaxInt}, {Kind: 3}, {Kind: 4},
		says(4, "a"), says(4, "two words"), says(4, "\x00\xff{}[]: "), says(4, long), says(4, longer), says(7, "<b>"), says(11, longer), says(3, "3"), says(12, "x"), says(-1, "x"),
		listOf(), recordOf(""), listOf(says(4, "a"), listOf(says(4, "b"), recordOf("a b", says(9, "c"), Int(-7)))),
		recordOf("a bb c", listOf(), recordOf(""), says(4, "")), recordOf("b a a", Int(1), Int(2), Int(3)), recordOf("a b c", Int(1)), recordOf("a", Int(1), Int(2), Int(3)),
		{Kind: 5, List: list[:api.MaxItems]}, {Kind: 5, List: list}, {Kind: 6, List: list[:api.MaxItems], Keys: keys[:api.MaxItems]}, {Kind: 6, List: list, Keys: keys}, {Kind: 6, Keys: keys},
		{Kind: 4, Int: 1, Text: "t", List: []api.Value{says(4, "u"), says(8, "v")}, Keys: []string{"w", "x"}}, {Kind: 99, Int: 1, Text: "t", List: list[:2], Keys: keys[:3]},
		nest(api.MaxNest, Int(1), inBoth), nest(api.MaxNest+1, Int(1), inBoth), nest(100, says(10, "deep"), inRecord),
	}
	for _, kind := range noKinds() {
		out = append(out, kindOf(kind), says(kind, "odd"), api.Value{Kind: kind, List: list[:2], Keys: keys[:2]}, listOf(says(kind, "odd")), recordOf("k", kindOf(kind)))
	}
	return append(out, smallValues()...)
}
