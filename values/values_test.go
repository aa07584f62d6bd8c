package values

import (
	"math"
	"reflect"
	"strings"
	"testing"

	"muslin/api"
)

func TestPlainOfEachKind(t *testing.T) { // P4.1
	for kind := -3; kind <= 15; kind++ {
		want := kind <= 6
		for what, v := range map[string]api.Value{
			"an empty one":        kindOf(kind),
			"one with a text":     says(kind, "a"),
			"one in a list":       listOf(Int(1), kindOf(kind), Int(2)),
			"one in a record":     recordOf("a b", Int(1), says(kind, "a")),
			"one deep within":     nest(40, kindOf(kind), inBoth),
			"one without its key": recordOf("a", Int(1), kindOf(kind)),
		} {
			if got := Plain(v); got != want {
				t.Errorf("P4.1: Plain of Kind %d, %s, is %v", kind, what, got)
			}
		}
	}
	for _, kind := range noKinds() {
		if got := Plain(says(kind, "a")); got != (kind < 0) {
			t.Errorf("P4.1: Plain of Kind %d is %v", kind, got)
		}
	}
}

func TestPlainOfLists(t *testing.T) { // P4.1
	safe := says(7, "<b>")
	for _, c := range []struct {
		what string
		v    api.Value
		want bool
	}{
		{"an empty list", listOf(), true},
		{"an empty record", recordOf(""), true},
		{"lists of lists", listOf(listOf(), listOf(listOf(Int(1)), says(4, "a"))), true},
		{"a safe text first", listOf(safe, Int(1)), false},
		{"a safe text last", listOf(Int(1), listOf(), safe), false},
		{"a safe text in an earlier list", listOf(listOf(safe), listOf(Int(1))), false},
		{"a safe text in a later record", recordOf("a b", listOf(Int(1)), recordOf("a", safe)), false},
		{"a safe Kind around plain values", api.Value{Kind: 9, List: []api.Value{Int(1)}}, false},
		{"a safe text in a text's List", api.Value{Kind: 4, Text: "a", List: []api.Value{safe}}, false},
		{"a record of more keys", recordOf("a b c", Int(1)), true},
	} {
		if got := Plain(c.v); got != c.want {
			t.Errorf("P4.1: Plain of %s is %v", c.what, got)
		}
	}
}

func TestTruth(t *testing.T) { // P4.1
	for _, c := range []struct {
		what string
		v    api.Value
		want bool
	}{
		{"null", kindOf(0), false},
		{"false", kindOf(1), false},
		{"true", kindOf(2), true},
		{"0", Int(0), false},
		{"1", Int(1), true},
		{"-1", Int(-1), true},
		{"the least number", Int(math.MinInt), true},
		{"2^32", Int(1 << 32), true},
		{"an empty text", Text(""), false},
		{"a text", Text("a"), true},
		{"a text that says 0", Text("0"), true},
		{"a text that says false", Text("false"), true},
		{"a blank", Text(" "), true},
		{"the octet 0", Text("\x00"), true},
		{"an empty list", listOf(), false},
		{"an empty list that is not nil", api.Value{Kind: 5, List: []api.Value{}}, false},
		{"a list of null", listOf(kindOf(0)), true},
		{"a list of an empty list", listOf(listOf()), true},
		{"an empty record", recordOf(""), false},
		{"a record", recordOf("a", kindOf(1)), true},
		{"a record of keys alone", recordOf("a b"), false},
		{"a record of values alone", recordOf("", Int(0)), true},
	} {
		if got := Truth(c.v); got != c.want {
			t.Errorf("P4.1: Truth of %s is %v", c.what, got)
		}
	}
	for _, kind := range append(noKinds(), 4, 7, 8, 9, 10, 11) {
		if Truth(kindOf(kind)) || !Truth(says(kind, "a")) {
			t.Errorf("P4.1: Truth of Kind %d does not go by its Text", kind)
		}
	}
}

func TestTruthIsOfWhatTheKindUses(t *testing.T) { // P4.1
	all := api.Value{Int: 1, Text: "t", List: []api.Value{{}}, Keys: []string{"k"}}
	for kind := -2; kind <= 13; kind++ {
		full, bare := all, kindOf(kind)
		full.Kind = kind
		letter := "T"
		if kind >= 0 && kind <= 6 {
			letter = [7]string{0: "", 1: "", 2: "", 3: "I", 4: "T", 5: "L", 6: "L"}[kind]
		}
		switch letter {
		case "I":
			full.Int = 0
		case "T":
			full.Text = ""
		case "L":
			full.List = nil
		}
		want := kind == 2
		if got := Truth(full); got != want {
			t.Errorf("P4.1: Truth of Kind %d with all that it does not use is %v", kind, got)
		}
		if got := Truth(bare); got != want {
			t.Errorf("P4.1: Truth of an empty Kind %d is %v", kind, got)
		}
	}
}

func TestField(t *testing.T) { // P4.2, P4
	inner := recordOf("c", says(7, "<b>"))
	full := recordOf("a b c", Int(1), inner, listOf(Int(2), Int(3)))
	for _, c := range []struct {
		what string
		v    api.Value
		name string
		want api.Value
		err  api.Errno
	}{
		{"the first", full, "a", Int(1), api.OK},
		{"a record in it", full, "b", inner, api.OK},
		{"the last", full, "c", listOf(Int(2), Int(3)), api.OK},
		{"a key that is not there", full, "d", api.Value{}, api.ErrField},
		{"a key that is not there, ahead", full, "A", api.Value{}, api.ErrField},
		{"a key of a value", recordOf("a", inner), "c", api.Value{}, api.ErrField},
		{"a longer name", full, "aa", api.Value{}, api.ErrField},
		{"a shorter name", recordOf("aa", Int(1)), "a", api.Value{}, api.ErrField},
		{"a great letter", full, "B", api.Value{}, api.ErrField},
		{"an empty name", full, "", api.Value{}, api.ErrField},
		{"an empty key", api.Value{Kind: 6, Keys: []string{""}, List: []api.Value{Int(9)}}, "", Int(9), api.OK},
		{"a key that is no name", api.Value{Kind: 6, Keys: []string{"1 é"}, List: []api.Value{Int(9)}}, "1 é", Int(9), api.OK},
		{"an empty record", recordOf(""), "a", api.Value{}, api.ErrField},
		{"a key that is twice there", recordOf("a b b c", Int(1), Int(2), Int(3), Int(4)), "b", Int(2), api.OK},
		{"a key twice, one without a value", recordOf("a a", Int(1)), "a", Int(1), api.OK},
		{"keys that do not rise", recordOf("c b a", Int(1), Int(2), Int(3)), "a", Int(3), api.OK},
		{"a key without a value", recordOf("a b", Int(1)), "b", api.Value{}, api.ErrField},
		{"keys without values", recordOf("a b"), "a", api.Value{}, api.ErrField},
		{"a value without a key", recordOf("a", Int(1), Int(2)), "b", api.Value{}, api.ErrField},
		{"values without keys", recordOf("", Int(1)), "a", api.Value{}, api.ErrField},
		{"null", recordOf("a", kindOf(0)), "a", kindOf(0), api.OK},
		{"a value that may not be", recordOf("a", api.Value{Kind: 12, Int: 1, Text: "t"}), "a", api.Value{Kind: 12, Int: 1, Text: "t"}, api.OK},
	} {
		got, err := Field(c.v, c.name)
		if !reflect.DeepEqual(got, c.want) || err != c.err {
			t.Errorf("P4.2: Field of %s is %+v, %d, not %+v, %d", c.what, got, err, c.want, c.err)
		}
	}
}

func TestFieldOfWhatIsNoRecord(t *testing.T) { // P4.2, P4
	for _, kind := range append(noKinds(), 0, 1, 2, 3, 4, 5, 7, 8, 9, 10, 11) {
		v := api.Value{Kind: kind, Keys: []string{"a"}, List: []api.Value{Int(1)}}
		for _, name := range []string{"a", "b", ""} {
			if got, err := Field(v, name); !reflect.DeepEqual(got, api.Value{}) || err != api.ErrType {
				t.Errorf("P4.2: Field of Kind %d is %+v, %d", kind, got, err)
			}
		}
	}
}

func TestIndex(t *testing.T) { // P4.2, P4
	items := []api.Value{Int(5), recordOf("a", says(8, "x")), listOf(), {Kind: -1, Text: "odd"}}
	for count := range len(items) + 1 {
		v := listOf(items[:count]...)
		for n := -3; n <= count+3; n++ {
			want, wantErr := api.Value{}, api.ErrIndex
			if n >= 0 && n < count {
				want, wantErr = items[n], api.OK
			}
			if got, err := Index(v, n); !Same(got, want) || err != wantErr {
				t.Errorf("P4.2: Index of a list of %d at %d is %+v, %d", count, n, got, err)
			}
		}
		for _, n := range []int{math.MaxInt, math.MinInt, 1 << 32, -1 << 32, 1<<32 + 1, 1 << 31} {
			if got, err := Index(v, n); !reflect.DeepEqual(got, api.Value{}) || err != api.ErrIndex {
				t.Errorf("P4.2: Index of a list of %d at %d is %+v, %d", count, n, got, err)
			}
		}
	}
	list, _ := many(api.MaxItems)
	if got, err := Index(listOf(list...), api.MaxItems-1); !Same(got, list[api.MaxItems-1]) || err != api.OK {
		t.Errorf("P4.2: Index of a list of the most at its last place is %+v, %d", got, err)
	}
	spare := make([]api.Value, 5)
	if got, err := Index(listOf(spare[:2]...), 2); !reflect.DeepEqual(got, api.Value{}) || err != api.ErrIndex {
		t.Errorf("P4.2: Index behind the last place is %+v, %d", got, err)
	}
}

func TestIndexOfWhatIsNoList(t *testing.T) { // P4.2, P4
	for _, kind := range append(noKinds(), 0, 1, 2, 3, 4, 6, 7, 8, 9, 10, 11) {
		v := api.Value{Kind: kind, Text: "abc", Keys: []string{"a"}, List: []api.Value{Int(1)}}
		for _, n := range []int{0, 1, -1, math.MaxInt, math.MinInt} {
			if got, err := Index(v, n); !reflect.DeepEqual(got, api.Value{}) || err != api.ErrType {
				t.Errorf("P4.2: Index of Kind %d at %d is %+v, %d", kind, n, got, err)
			}
		}
	}
}

func TestLen(t *testing.T) { // P4.2, P4
	for _, c := range []struct {
		what string
		v    api.Value
		want int
	}{
		{"an empty text", Text(""), 0},
		{"a text", Text("abc"), 3},
		{"octets, no characters", Text("é\x00"), 3},
		{"a long text", Text(strings.Repeat("x", 1<<17)), 1 << 17},
		{"an empty list", listOf(), 0},
		{"an empty list that is not nil", api.Value{Kind: 5, List: []api.Value{}}, 0},
		{"a list", listOf(Int(1), listOf(Int(2), Int(3)), kindOf(0)), 3},
		{"an empty record", recordOf(""), 0},
		{"a record", recordOf("a b", Int(1), recordOf("c", Int(2))), 2},
		{"a record of more keys", recordOf("a b c", Int(1)), 1},
		{"a record of more values", recordOf("a", Int(1), Int(2)), 2},
		{"a text with a list", api.Value{Kind: 4, Text: "a", List: make([]api.Value, 5)}, 1},
		{"a list with a text", api.Value{Kind: 5, Text: "abc", List: make([]api.Value, 5)}, 5},
	} {
		if got, err := Len(c.v); got != c.want || err != api.OK {
			t.Errorf("P4.2: Len of %s is %d, %d, not %d", c.what, got, err, c.want)
		}
	}
	for kind := 7; kind <= 11; kind++ {
		for _, s := range []string{"", "a", "<b>é"} {
			if got, err := Len(says(kind, s)); got != len(s) || err != api.OK {
				t.Errorf("P4.2: Len of Kind %d of %q is %d, %d", kind, s, got, err)
			}
		}
	}
}

func TestLenOfKindsThatAreNone(t *testing.T) { // P4.2, P4
	for _, kind := range noKinds() {
		for _, s := range []string{"", "a", "<b>", "é\x00", strings.Repeat("x", api.MaxValue+1)} {
			want, wantErr := len(s), api.OK
			if kind < 0 {
				want, wantErr = 0, api.ErrType
			}
			for _, v := range []api.Value{says(kind, s), {Kind: kind, Int: 7, Text: s, List: make([]api.Value, 3), Keys: []string{"a", "b"}}} {
				if got, err := Len(v); got != want || err != wantErr {
					t.Errorf("P4.2: Len of Kind %d of %d octets is %d, %d, not %d, %d", kind, len(s), got, err, want, wantErr)
				}
			}
		}
	}
}

func TestLenOfWhatHasNone(t *testing.T) { // P4.2, P4
	for _, kind := range []int{-1, -7, math.MinInt, 0, 1, 2, 3} {
		for _, v := range []api.Value{kindOf(kind), says(kind, "abc"), {Kind: kind, Int: 7, List: make([]api.Value, 3), Keys: []string{"a", "b", "c"}}} {
			if got, err := Len(v); got != 0 || err != api.ErrType {
				t.Errorf("P4.2: Len of %+v is %d, %d", v, got, err)
			}
		}
	}
}

func TestPrint(t *testing.T) { // P4.3
	for _, c := range []struct {
		v    api.Value
		want string
	}{
		{kindOf(0), "null"},
		{kindOf(1), "false"},
		{kindOf(2), "true"},
		{Int(0), "0"},
		{Int(-12), "-12"},
		{Int(math.MaxInt), "9223372036854775807"},
		{Int(math.MinInt), "-9223372036854775808"},
		{Text(""), ""},
		{Text("a b"), "a b"},
		{Text("<\"&'\x00\xff"), "<\"&'\x00\xff"},
		{listOf(), "[]"},
		{listOf(Int(1)), "[1]"},
		{listOf(Int(1), Int(2)), "[1 2]"},
		{listOf(kindOf(0), kindOf(1), kindOf(2), Int(-3), Text("x y"), says(7, "<b>")), "[null false true -3 x y <b>]"},
		{listOf(Text("")), "[]"},
		{listOf(Text(""), Text(""), Text("")), "[  ]"},
		{listOf(listOf(), listOf(listOf(Int(1)), Int(2))), "[[] [[1] 2]]"},
		{recordOf(""), "{}"},
		{recordOf("a", Int(1)), "{a:1}"},
		{recordOf("a b", Int(1), Text("x")), "{a:1 b:x}"},
		{recordOf("a b c", Text(""), recordOf(""), listOf()), "{a: b:{} c:[]}"},
		{recordOf("a b", listOf(Int(1), Int(2)), recordOf("c", kindOf(0))), "{a:[1 2] b:{c:null}}"},
		{listOf(recordOf("a", Int(1)), recordOf("a", Int(2))), "[{a:1} {a:2}]"},
		{recordOf("", Int(1)), "{:1}"},
		{recordOf("a", Int(1), Int(2), Int(3)), "{a:1 :2 :3}"},
		{recordOf("a b c", Int(1)), "{a:1}"},
		{recordOf("a b"), "{}"},
		{recordOf("b a b", Int(1), Int(2), Int(3)), "{b:1 a:2 b:3}"},
		{api.Value{Kind: 6, Keys: []string{"", "x y"}, List: []api.Value{Int(1), Int(2)}}, "{:1 x y:2}"},
		{listOf(says(12, "a"), says(-1, "b"), kindOf(99)), "[a b ]"},
	} {
		if got := Print(c.v); got != c.want {
			t.Errorf("P4.3: Print of %+v is %q, not %q", c.v, got, c.want)
		}
	}
}

func TestPrintIsOfWhatTheKindUses(t *testing.T) { // P4.3
	for kind, want := range map[int]string{0: "null", 1: "false", 2: "true", 3: "7", 4: "t", 5: "[null]", 6: "{k:null}"} {
		v := api.Value{Kind: kind, Int: 7, Text: "t", List: []api.Value{{}}, Keys: []string{"k"}}
		if got := Print(v); got != want {
			t.Errorf("P4.3: Print of %+v is %q, not %q", v, got, want)
		}
	}
	for _, kind := range append(noKinds(), 7, 8, 9, 10, 11) {
		v := api.Value{Kind: kind, Int: 7, Text: "t", List: []api.Value{{}}, Keys: []string{"k"}}
		if got := Print(v); got != "t" {
			t.Errorf("P4.3: Print of Kind %d is %q", kind, got)
		}
		if got := Print(kindOf(kind)); got != "" {
			t.Errorf("P4.3: Print of an empty Kind %d is %q", kind, got)
		}
	}
}

func TestSameOfOneField(t *testing.T) { // P4.1
	base := api.Value{Kind: 6, Int: 1, Text: "t", List: []api.Value{Int(1), Text("a")}, Keys: []string{"a", "b"}}
	for what, change := range map[string]func(v *api.Value){
		"Kind":               func(v *api.Value) { v.Kind = 5 },
		"a Kind that is not": func(v *api.Value) { v.Kind += 1 << 32 },
		"Int":                func(v *api.Value) { v.Int = -1 },
		"a great Int":        func(v *api.Value) { v.Int += 1 << 32 },
		"Text":               func(v *api.Value) { v.Text = "T" },
		"no Text":            func(v *api.Value) { v.Text = "" },
		"a longer Text":      func(v *api.Value) { v.Text = "t\x00" },
		"no List":            func(v *api.Value) { v.List = nil },
		"a shorter List":     func(v *api.Value) { v.List = v.List[:1] },
		"a longer List":      func(v *api.Value) { v.List = append(v.List[:2:2], api.Value{}) },
		"a List turned":      func(v *api.Value) { v.List = []api.Value{Text("a"), Int(1)} },
		"the first value":    func(v *api.Value) { v.List = []api.Value{Int(2), Text("a")} },
		"the last value":     func(v *api.Value) { v.List = []api.Value{Int(1), says(7, "a")} },
		"no Keys":            func(v *api.Value) { v.Keys = nil },
		"fewer Keys":         func(v *api.Value) { v.Keys = v.Keys[:1] },
		"more Keys":          func(v *api.Value) { v.Keys = append(v.Keys[:2:2], "") },
		"another Key":        func(v *api.Value) { v.Keys = []string{"a", "B"} },
		"Keys turned":        func(v *api.Value) { v.Keys = []string{"b", "a"} },
	} {
		other := base
		change(&other)
		for _, around := range []int{0, 1, 2, 40} {
			a, b := nest(around, base, inBoth), nest(around, other, inBoth)
			if Same(a, b) || Same(b, a) {
				t.Errorf("P4.1: Same of values that differ in %s, %d deep", what, around)
			}
			if !Same(b, copyOf(b)) {
				t.Errorf("P4.1: not Same of two with %s, %d deep", what, around)
			}
		}
	}
}

func TestSameOfNilAndEmptyLists(t *testing.T) { // P4.1, P1
	for kind := -2; kind <= 13; kind++ {
		none := api.Value{Kind: kind}
		empty := api.Value{Kind: kind, List: []api.Value{}, Keys: []string{}}
		room := api.Value{Kind: kind, List: make([]api.Value, 0, 4), Keys: make([]string, 0, 4)}
		for _, a := range []api.Value{none, empty, room} {
			for _, b := range []api.Value{none, empty, room} {
				if !Same(a, b) || !Same(listOf(Int(1), a), listOf(Int(1), b)) {
					t.Errorf("P1: nil and empty lists of Kind %d are not one", kind)
				}
			}
		}
	}
}

func TestSameOfSmallValues(t *testing.T) { // P4.1
	all := smallValues()
	told := make([]string, len(all))
	for i, v := range all {
		told[i] = wholeOf(v)
	}
	for i, a := range all {
		for j, b := range all {
			if got := Same(a, b); got != (told[i] == told[j]) {
				t.Fatalf("P4.1: Same of %+v and %+v is %v", a, b, got)
			}
		}
	}
}

func TestCloneOfOddValues(t *testing.T) { // P4.1
	for _, v := range oddValues() {
		if got := Clone(v); wholeOf(got) != wholeOf(v) || !Same(got, v) {
			t.Errorf("P4.1: Clone of %.200s is %.200s", wholeOf(v), wholeOf(got))
		}
	}
}

func TestTextAndInt(t *testing.T) { // P4.1
	for _, s := range []string{"", "a", "<b>é\x00\xff", strings.Repeat("x", api.MaxValue+1)} {
		if got := Text(s); !reflect.DeepEqual(got, api.Value{Kind: 4, Text: s}) {
			t.Errorf("P4.1: Text(%.40q) is %+v", s, got)
		}
	}
	for _, n := range []int{0, 1, -1, 12, math.MaxInt, math.MinInt, 1 << 32} {
		if got := Int(n); !reflect.DeepEqual(got, api.Value{Kind: 3, Int: n}) {
			t.Errorf("P4.1: Int(%d) is %+v", n, got)
		}
	}
}
