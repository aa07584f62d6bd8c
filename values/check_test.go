package values

import (
	"math"
	"strings"
	"testing"

	"muslin/api"
)

// usedBy tells which fields a Kind uses: the letters that its fields begin with.
func usedBy(kind int) string {
	return [12]string{3: "I", 4: "T", 5: "L", 6: "LK", 7: "T", 8: "T", 9: "T", 10: "T", 11: "T"}[kind]
}

type checkCase struct {
	what string
	v    api.Value
	want api.Errno
}

func lookAtChecks(t *testing.T, cases []checkCase) {
	t.Helper()
	for _, c := range cases {
		if got := Check(c.v); got != c.want {
			t.Errorf("P4.1: Check of %s is %d, not %d", c.what, got, c.want)
		}
	}
}

func TestCheckOfEachKind(t *testing.T) { // P4.1
	for kind := 0; kind <= 11; kind++ {
		if got := Check(kindOf(kind)); got != api.OK {
			t.Errorf("P4.1: Check of an empty value of Kind %d is %d", kind, got)
		}
	}
	for _, kind := range noKinds() {
		for _, v := range []api.Value{kindOf(kind), says(kind, "a"), {Kind: kind, List: []api.Value{{}}}, {Kind: kind, Int: 1}, {Kind: kind, Keys: []string{"a"}}} {
			if got := Check(v); got != api.ErrState {
				t.Errorf("P4.1: Check of %+v is %d", v, got)
			}
		}
	}
}

func TestCheckOfWhatMayBe(t *testing.T) { // P4.1
	lookAtChecks(t, []checkCase{
		{"the greatest number", Int(math.MaxInt), api.OK},
		{"the least number", Int(math.MinInt), api.OK},
		{"a text", says(4, "a"), api.OK},
		{"a text of any octets", says(4, "\x00\xff\xed\xa0\x80<>"), api.OK},
		{"a safe text", says(7, "<b>"), api.OK},
		{"a list", listOf(Int(1), says(4, "a"), kindOf(0)), api.OK},
		{"a record", recordOf("a b", Int(1), says(11, "a")), api.OK},
		{"lists in a record in a list", listOf(recordOf("a b", listOf(), listOf(Int(1)))), api.OK},
		{"empty lists that are not nil", api.Value{Kind: 3, Int: 1, List: []api.Value{}, Keys: []string{}}, api.OK},
		{"a list with empty Keys", api.Value{Kind: 5, List: []api.Value{{}}, Keys: []string{}}, api.OK},
		{"an empty record that is not nil", api.Value{Kind: 6, List: []api.Value{}, Keys: []string{}}, api.OK},
	})
}

func TestCheckOfWhatAKindDoesNotUse(t *testing.T) { // P4.1
	fields := []struct {
		letter string
		put    func(v *api.Value)
	}{
		{"I", func(v *api.Value) { v.Int = -1 }},
		{"T", func(v *api.Value) { v.Text = "t" }},
		{"L", func(v *api.Value) { v.List = []api.Value{{}} }},
		{"K", func(v *api.Value) { v.Keys = []string{"k"} }},
	}
	for kind := 0; kind <= 11; kind++ {
		for _, f := range fields {
			v, want := kindOf(kind), api.ErrState
			f.put(&v)
			if strings.Contains(usedBy(kind), f.letter) && kind != 6 { // a record has both or none
				want = api.OK
			}
			if got := Check(v); got != want {
				t.Errorf("P4.1: Check of Kind %d with %s is %d, not %d", kind, f.letter, got, want)
			}
		}
	}
	both := recordOf("k", kindOf(0))
	lookAtChecks(t, []checkCase{
		{"a record with a key and a value", both, api.OK},
		{"a record with an Int", api.Value{Kind: 6, Int: 1, List: both.List, Keys: both.Keys}, api.ErrState},
		{"a record with a Text", api.Value{Kind: 6, Text: "t", List: both.List, Keys: both.Keys}, api.ErrState},
		{"a text that has an Int, too", api.Value{Kind: 4, Text: "t", Int: 1}, api.ErrState},
		{"a safe text that has a List, too", api.Value{Kind: 9, Text: "t", List: both.List}, api.ErrState},
		{"a list that has Keys, too", api.Value{Kind: 5, List: both.List, Keys: both.Keys}, api.ErrState},
	})
}

func TestCheckOfTextsByLength(t *testing.T) { // P4.1, Limits
	for kind := -1; kind <= 12; kind++ {
		most := api.ErrState
		if kind == 4 || kind >= 7 && kind <= 11 {
			most = api.OK
		}
		for size, want := range map[int]api.Errno{api.MaxValue - 1: most, api.MaxValue: most, api.MaxValue + 1: api.ErrLong, 1 << 17: api.ErrLong} {
			if got := Check(says(kind, strings.Repeat("é", size)[:size])); got != want {
				t.Errorf("P4.1: Check of Kind %d with a Text of %d is %d, not %d", kind, size, got, want)
			}
		}
	}
}

func TestCheckOfListsByLength(t *testing.T) { // P4.1, Limits
	most := api.MaxItems
	list, keys := many(most + 1)
	lookAtChecks(t, []checkCase{
		{"a list of all but one", api.Value{Kind: 5, List: list[:most-1]}, api.OK},
		{"a list of the most", api.Value{Kind: 5, List: list[:most]}, api.OK},
		{"a list of one more", api.Value{Kind: 5, List: list}, api.ErrCount},
		{"a record of the most", api.Value{Kind: 6, List: list[:most], Keys: keys[:most]}, api.OK},
		{"a record of one more", api.Value{Kind: 6, List: list, Keys: keys}, api.ErrCount},
		{"a record of one more value", api.Value{Kind: 6, List: list, Keys: keys[:most]}, api.ErrCount},
		{"a record of one more key", api.Value{Kind: 6, List: list[:most], Keys: keys}, api.ErrCount},
		{"a record of keys alone", api.Value{Kind: 6, Keys: keys}, api.ErrCount},
		{"a record of the most keys alone", api.Value{Kind: 6, Keys: keys[:most]}, api.ErrState},
		{"a record of values alone", api.Value{Kind: 6, List: list}, api.ErrCount},
		{"a list of the most keys", api.Value{Kind: 5, Keys: keys[:most]}, api.ErrState},
		{"a list of one more key", api.Value{Kind: 5, Keys: keys}, api.ErrCount},
		{"lists of the most in a list", listOf(api.Value{Kind: 5, List: list[:most]}, api.Value{Kind: 5, List: list[:most]}), api.OK},
		{"a list of one more in a list", listOf(Int(1), api.Value{Kind: 5, List: list}), api.ErrCount},
	})
	for kind := -1; kind <= 12; kind++ {
		if kind == 5 || kind == 6 {
			continue
		}
		lookAtChecks(t, []checkCase{
			{"another Kind with the most values", api.Value{Kind: kind, List: list[:most]}, api.ErrState},
			{"another Kind with one more value", api.Value{Kind: kind, List: list}, api.ErrCount},
			{"another Kind with the most keys", api.Value{Kind: kind, Keys: keys[:most]}, api.ErrState},
			{"another Kind with one more key", api.Value{Kind: kind, Keys: keys}, api.ErrCount},
		})
	}
}

func TestCheckOfDepth(t *testing.T) { // P4.1, Limits
	for _, around := range []func(v api.Value) api.Value{inList, inRecord, inBoth} {
		for depth := 0; depth <= 40; depth++ {
			want, wantNested := api.OK, api.OK
			if depth > api.MaxNest {
				want = api.ErrDepth
			}
			if depth+1 > api.MaxNest {
				wantNested = api.ErrDepth
			}
			lookAtChecks(t, []checkCase{
				{"a number within some", nest(depth, Int(1), around), want},
				{"a text within some", nest(depth, says(7, "a"), around), want},
				{"an empty list within some", nest(depth, listOf(), around), wantNested},
				{"an empty record within some", nest(depth, recordOf(""), around), wantNested},
			})
		}
	}
}

func TestCheckOfDepthIsOfOneWay(t *testing.T) { // P4.1
	deep, deeper := nest(api.MaxNest-1, Int(1), inList), nest(api.MaxNest, Int(1), inRecord)
	wide := make([]api.Value, 3*api.MaxNest)
	for i := range wide {
		wide[i] = deep
	}
	hidden := api.Value{Kind: 4, List: []api.Value{listOf()}}
	lookAtChecks(t, []checkCase{
		{"many beside each other", api.Value{Kind: 5, List: wide}, api.OK},
		{"the last of many too deep", api.Value{Kind: 5, List: append(wide, deeper)}, api.ErrDepth},
		{"a deep one in the middle", listOf(deep, deeper, deep), api.ErrDepth},
		{"a list in what is no list, too deep", nest(api.MaxNest, hidden, inList), api.ErrState},
		{"no Kind, too deep", nest(api.MaxNest, kindOf(12), inList), api.ErrState},
	})
}

func TestCheckOfKeys(t *testing.T) { // P4.1
	long := strings.Repeat("n", api.MaxName)
	for _, c := range []struct {
		keys []string
		want api.Errno
	}{
		{[]string{"a"}, api.OK},
		{[]string{"_"}, api.OK},
		{[]string{"A", "Z", "_", "a", "z"}, api.OK},
		{[]string{"a", "a0", "aA", "a_", "aa", "b"}, api.OK},
		{[]string{"k10", "k9"}, api.OK},
		{[]string{long}, api.OK},
		{[]string{long[1:], long}, api.OK},
		{[]string{long + "n"}, api.ErrState},
		{[]string{""}, api.ErrState},
		{[]string{"", "a"}, api.ErrState},
		{[]string{"a", ""}, api.ErrState},
		{[]string{"1"}, api.ErrState},
		{[]string{"a b"}, api.ErrState},
		{[]string{"a-b"}, api.ErrState},
		{[]string{"é"}, api.ErrState},
		{[]string{"a", "b", "c "}, api.ErrState},
		{[]string{"a", "b\x00", "c"}, api.ErrState},
		{[]string{"b", "a"}, api.ErrState},
		{[]string{"a", "b", "a"}, api.ErrState},
		{[]string{"a", "c", "b"}, api.ErrState},
		{[]string{"b", "a", "c"}, api.ErrState},
		{[]string{"a", "a"}, api.ErrState},
		{[]string{"a", "b", "b"}, api.ErrState},
		{[]string{"a", "a", "b"}, api.ErrState},
		{[]string{"a", "A"}, api.ErrState},
		{[]string{"_", "A"}, api.ErrState},
		{[]string{"ab", "a"}, api.ErrState},
		{[]string{"k9", "k10"}, api.ErrState},
	} {
		v := api.Value{Kind: 6, Keys: c.keys, List: make([]api.Value, len(c.keys))}
		if got := Check(v); got != c.want {
			t.Errorf("P4.1: Check of a record of %q is %d, not %d", c.keys, got, c.want)
		}
		if got := Check(listOf(Int(1), v)); got != c.want {
			t.Errorf("P4.1: Check of a list with a record of %q is %d, not %d", c.keys, got, c.want)
		}
	}
	for keys := range 4 {
		for values := range 4 {
			v, want := api.Value{Kind: 6, Keys: []string{"a", "b", "c"}[:keys], List: make([]api.Value, values)}, api.OK
			if keys != values {
				want = api.ErrState
			}
			if got := Check(v); got != want {
				t.Errorf("P4.1: Check of a record of %d keys and %d values is %d, not %d", keys, values, got, want)
			}
		}
	}
}

func TestCheckOfTwoFaultsAtOneValue(t *testing.T) { // P4.1, P4
	list, keys := many(api.MaxItems + 1)
	long := strings.Repeat("x", api.MaxValue+1)
	within := func(v api.Value) api.Value { return nest(api.MaxNest, v, inList) }
	lookAtChecks(t, []checkCase{
		{"too deep and too long", within(api.Value{Kind: 5, Text: long}), api.ErrDepth},
		{"too deep and too many", within(api.Value{Kind: 6, List: list, Keys: keys}), api.ErrDepth},
		{"too deep and what it does not use", within(api.Value{Kind: 5, Int: 1}), api.ErrDepth},
		{"too deep and keys that are none", within(recordOf("1", Int(1))), api.ErrDepth},
		{"too long and too many values", api.Value{Kind: 5, Text: long, List: list}, api.ErrLong},
		{"too long and too many keys", api.Value{Kind: 6, Text: long, Keys: keys}, api.ErrLong},
		{"too long and no Kind", says(12, long), api.ErrLong},
		{"too long and a Kind without a text", says(0, long), api.ErrLong},
		{"too long and an Int", api.Value{Kind: 4, Text: long, Int: 1}, api.ErrLong},
		{"too many and no Kind", api.Value{Kind: -1, List: list}, api.ErrCount},
		{"too many and an Int", api.Value{Kind: 5, List: list, Int: 1}, api.ErrCount},
		{"too many and a Text", api.Value{Kind: 5, List: list, Text: "t"}, api.ErrCount},
		{"too many and none of them names", api.Value{Kind: 6, List: list, Keys: make([]string, len(list))}, api.ErrCount},
		{"all but too deep", api.Value{Kind: 12, Int: 1, Text: long, List: list, Keys: keys}, api.ErrLong},
	})
}

func TestCheckOfAValueAndItsValues(t *testing.T) { // P4.1, P4
	list, keys := many(api.MaxItems + 1)
	long := says(4, strings.Repeat("x", api.MaxValue+1))
	count, state, deep := api.Value{Kind: 5, List: list}, kindOf(12), nest(api.MaxNest, Int(1), inList)
	crowd := append([]api.Value{long}, list...)
	lookAtChecks(t, []checkCase{
		{"an Int around what is too deep", api.Value{Kind: 5, Int: 1, List: []api.Value{deep}}, api.ErrState},
		{"an Int around what is too long", api.Value{Kind: 5, Int: 1, List: []api.Value{long}}, api.ErrState},
		{"keys that are none around what is too deep", recordOf("1", deep), api.ErrState},
		{"a key more around what is too many", recordOf("a b", count), api.ErrState},
		{"no Kind around what is too long", api.Value{Kind: 12, List: []api.Value{long}}, api.ErrState},
		{"a text around what is too deep", api.Value{Kind: 4, List: []api.Value{deep}}, api.ErrState},
		{"too many around what is too long", api.Value{Kind: 5, List: crowd}, api.ErrCount},
		{"too many keys around what is too deep", api.Value{Kind: 6, List: []api.Value{deep}, Keys: keys}, api.ErrCount},
		{"too long around what is too deep", api.Value{Kind: 5, Text: long.Text, List: []api.Value{deep}}, api.ErrLong},
		{"a list around what is too deep", listOf(deep), api.ErrDepth},
		{"a list around what is too long", listOf(long), api.ErrLong},
		{"a list around what is too many", listOf(count), api.ErrCount},
		{"a list around no Kind", listOf(state), api.ErrState},
		{"an Int halfway down", nest(3, api.Value{Kind: 5, Int: 1, List: []api.Value{deep}}, inList), api.ErrState},
	})
}

func TestCheckOfAnEarlierAndALaterValue(t *testing.T) { // P4.1, P4
	list, _ := many(api.MaxItems + 1)
	faults := []struct {
		v    api.Value
		want api.Errno
	}{
		{nest(api.MaxNest+1, Int(1), inBoth), api.ErrDepth},
		{says(4, strings.Repeat("x", api.MaxValue+1)), api.ErrLong},
		{api.Value{Kind: 5, List: list}, api.ErrCount},
		{kindOf(12), api.ErrState},
	}
	fine := recordOf("a b", listOf(Int(1)), says(4, "x"))
	for _, one := range faults {
		for _, two := range faults {
			lookAtChecks(t, []checkCase{
				{"two beside each other", listOf(one.v, two.v), one.want},
				{"two of a record", recordOf("a b c", fine, one.v, two.v), one.want},
				{"one within, one behind", listOf(fine, listOf(fine, one.v), two.v), one.want},
				{"one ahead, one within", listOf(one.v, listOf(fine, two.v)), one.want},
				{"both within", listOf(listOf(listOf(fine), one.v), recordOf("a", two.v)), one.want},
			})
		}
	}
}

// firstFault tells by the table of used fields, and by all faults of all values laid out in order, what Check answers.
func firstFault(v api.Value, around int) []api.Errno {
	var out []api.Errno
	isNest := v.Kind == 5 || v.Kind == 6
	if isNest && around >= api.MaxNest {
		out = append(out, api.ErrDepth)
	}
	if len(v.Text) > api.MaxValue {
		out = append(out, api.ErrLong)
	}
	if max(len(v.List), len(v.Keys)) > api.MaxItems {
		out = append(out, api.ErrCount)
	}
	if v.Kind < 0 || v.Kind > 11 {
		return append(out, api.ErrState)
	}
	has := ""
	for letter, is := range map[string]bool{"I": v.Int != 0, "T": v.Text != "", "L": len(v.List) > 0, "K": len(v.Keys) > 0} {
		if is {
			has += letter
		}
	}
	if strings.Trim(has, usedBy(v.Kind)) != "" || v.Kind == 6 && len(v.Keys) != len(v.List) {
		out = append(out, api.ErrState)
	}
	for i, key := range v.Keys {
		if v.Kind == 6 && (key == "" || key[0] < 'A' || i > 0 && key <= v.Keys[i-1]) {
			out = append(out, api.ErrState)
		}
	}
	for _, x := range v.List {
		out = append(out, firstFault(x, around+1)...)
	}
	return out
}

func TestCheckOfSmallValues(t *testing.T) { // P4.1
	look := func(v api.Value) {
		want := append(firstFault(v, 0), api.OK)[0]
		if got := Check(v); got != want {
			t.Fatalf("P4.1: Check of %+v is %d, not %d", v, got, want)
		}
	}
	for _, v := range smallValues() {
		look(v)
		look(listOf(Int(1), v))
		look(recordOf("a b c", v, kindOf(12), v))
		look(nest(api.MaxNest-1, v, inBoth))
		look(nest(api.MaxNest, v, inBoth))
	}
}
