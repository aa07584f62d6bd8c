package literal

import (
	"encoding/json"
	"math"
	"math/rand"
	"reflect"
	"regexp"
	"strconv"
	"strings"
	"testing"

	"muslin/api"
	"muslin/utf"
	"muslin/values"
)

var (
	piece      = regexp.MustCompile(`^(?:"[^"]*"|null|true|false| ?-?[0-9]+|[\[\]{},:])`)
	wholeList  = regexp.MustCompile(`\[(?:[vt](?:,[vt])*)?\]`)
	wholeMap   = regexp.MustCompile(`\{(?:[vt](?:,[vt])*|t:[vt](?:,t:[vt])*(?:,[vt])*)?\}`)
	signs      = "[]{},:"
	wholeWords = "null true false"
)

// isLiteral tells, by another way than Read goes, whether s is a literal that Literal makes of Kinds 0 to 6, and how deep it is: its pieces become letters, and lists and records of letters become letters.
func isLiteral(s string) (bool, int) {
	var b strings.Builder
	for rest := s; rest != ""; {
		p := piece.FindString(rest)
		switch {
		case p == "":
			return false, 0
		case strings.Contains(signs, p):
			b.WriteString(p)
		case p[0] == '"' && isQuoted(p):
			b.WriteString("t")
		case strings.Contains(wholeWords, p) || isNumber(p):
			b.WriteString("v")
		default:
			return false, 0
		}
		rest = rest[len(p):]
	}
	told := b.String()
	deep, deepest := 0, 0
	for i := range told {
		deep += strings.Count("[{", told[i:i+1]) - strings.Count("]}", told[i:i+1])
		deepest = max(deepest, deep)
	}
	for before := ""; before != told; {
		before = told
		told = wholeMap.ReplaceAllString(wholeList.ReplaceAllString(told, "v"), "v")
	}
	return told == "v" || told == "t", deepest
}

func isQuoted(p string) bool {
	var s string
	return json.Unmarshal([]byte(p), &s) == nil && quoted(s) == p
}

func isNumber(p string) bool {
	n, err := strconv.ParseInt(strings.TrimPrefix(p, " "), 10, 64)
	want := strconv.FormatInt(n, 10)
	if n < 0 {
		want = " " + want
	}
	return err == nil && p == want
}

// lookAtRead holds what Read answers of any text against isLiteral and Literal.
func lookAtRead(t *testing.T, s string) {
	t.Helper()
	v, n, err := Read(s)
	ok, deep := isLiteral(s)
	want := api.ErrSyntax
	if ok && deep > api.MaxNest {
		want = api.ErrDepth
	} else if ok {
		want = api.OK
	}
	switch {
	case err != want:
		t.Fatalf("P5.2: Read(%.200q) answers %d, not %d", s, err, want)
	case err != api.OK && (n != 0 || !reflect.DeepEqual(v, api.Value{})):
		t.Fatalf("P5.2: Read(%.200q) answers %d, and %d, %+v beside it", s, err, n, v)
	case err == api.OK && (n != len(s) || Literal(v) != s || !ofKindsRead(v)):
		t.Fatalf("P5.2: Read(%.200q) answers %+v, %d", s, v, n)
	}
}

// ofKindsRead tells whether v has Kinds 0 to 6 alone, and of all else what these use.
func ofKindsRead(v api.Value) bool {
	if v.Kind < 0 || v.Kind > 6 || v.Int != 0 && v.Kind != 3 || v.Text != "" && v.Kind != 4 || len(v.List) > 0 && v.Kind < 5 || len(v.Keys) > 0 && v.Kind != 6 {
		return false
	}
	for _, x := range v.List {
		if !ofKindsRead(x) {
			return false
		}
	}
	return len(v.Keys) <= len(v.List)
}

func TestReadOfLiterals(t *testing.T) { // P5.2, P5.3
	for _, v := range readable() {
		s := Literal(v)
		got, n, err := Read(s)
		if !values.Same(got, v) || n != len(s) || err != api.OK {
			t.Errorf("P5.3: %.80s is read as %.200s, %d, %d", s, values.Print(got), n, err)
		}
	}
	for _, s := range oddTexts() {
		repaired := utf.Repair(s)
		for _, v := range []api.Value{textOf(s), says(7, s), says(11, s), says(12, s), says(-1, s)} {
			got, n, err := Read(Literal(v))
			if !values.Same(got, textOf(repaired)) || n != len(Quote(s)) || err != api.OK {
				t.Errorf("P5.2: the literal of %.40q is read as %.80q, %d, %d", s, got.Text, n, err)
			}
		}
		got, _, err := Read(Literal(keyed([]string{s}, intOf(1), textOf(s))))
		if !values.Same(got, keyed([]string{repaired}, intOf(1), textOf(repaired))) || err != api.OK {
			t.Errorf("P5.2: the literal of a record of %.40q is read as %+v, %d", s, got, err)
		}
	}
}

func TestReadOfLiteralsThatSayLess(t *testing.T) { // P5.2
	for _, v := range oddValues() {
		lookAtRead(t, Literal(v))
	}
	got, n, err := Read(Literal(recordOf("a b c", says(9, "x"), kindOf(-4))))
	if want := recordOf("a b", textOf("x"), textOf("")); !values.Same(got, want) || n != len(`{"a":"x","b":""}`) || err != api.OK {
		t.Errorf("P5.2: a literal of a key without a value is read as %+v, %d, %d", got, n, err)
	}
}

func TestReadOfTexts(t *testing.T) { // P5.2
	for _, c := range []struct {
		s    string
		want api.Value
	}{
		{`null`, kindOf(0)},
		{`false`, kindOf(1)},
		{`true`, kindOf(2)},
		{`0`, intOf(0)},
		{`90`, intOf(90)},
		{` -1`, intOf(-1)},
		{`9223372036854775807`, intOf(math.MaxInt)},
		{` -9223372036854775808`, intOf(math.MinInt)},
		{`""`, textOf("")},
		{`"a b,c_d.E9"`, textOf("a b,c_d.E9")},
		{`" "`, textOf(" ")},
		{`"\u003c\u0022\u005cu0041"`, textOf(`<"\u0041`)},
		{`"\ufffd"`, textOf("\ufffd")},
		{`"\u0001\u007f\u0080\u07ff\u0800\ud7ff\ue000\uffff"`, textOf("\x01\x7f\u0080\u07ff\u0800\ud7ff\ue000\uffff")},
		{`"\ud800\udc00\udbff\udfff\ud83d\ude00"`, textOf("\U00010000\U0010ffff😀")},
		{`[]`, listOf()},
		{`[1, -2,3]`, listOf(intOf(1), intOf(-2), intOf(3))},
		{`[[],[[null]],"x",{}]`, listOf(listOf(), listOf(listOf(kindOf(0))), textOf("x"), recordOf(""))},
		{`{}`, recordOf("")},
		{`{"a":1}`, recordOf("a", intOf(1))},
		{`{"a": -1,"b":"x","c":[true]}`, recordOf("a b c", intOf(-1), textOf("x"), listOf(kindOf(2)))},
		{`[{"a":{"b":[]}},{"a":{}}]`, listOf(recordOf("a", recordOf("b", listOf())), recordOf("a", recordOf("")))},
		{`{"":0}`, keyed([]string{""}, intOf(0))},
		{`{"1":0,"x\u002dy":1,"a b":2}`, keyed([]string{"1", "x-y", "a b"}, intOf(0), intOf(1), intOf(2))},
		{`{"b":1,"a":2}`, recordOf("b a", intOf(1), intOf(2))},
		{`{"a":1,"a":2,"a":1}`, recordOf("a a a", intOf(1), intOf(2), intOf(1))},
		{`{"a":"b"}`, recordOf("a", textOf("b"))},
		{`{"a"}`, recordOf("", textOf("a"))},
		{`{"a","b"}`, recordOf("", textOf("a"), textOf("b"))},
		{`{1,[2]}`, recordOf("", intOf(1), listOf(intOf(2)))},
		{`{"a":1,"b",{}}`, recordOf("a", intOf(1), textOf("b"), recordOf(""))},
	} {
		got, n, err := Read(c.s)
		if !values.Same(got, c.want) || n != len(c.s) || err != api.OK {
			t.Errorf("P5.2: Read(%s) is %+v, %d, %d, not %+v", c.s, got, n, err, c.want)
		}
		lookAtRead(t, c.s)
	}
}

func noLiterals() []string {
	return []string{
		"", " ", "nul", "nulll", "Null", "NULL", "null ", " null", "nil", "true1", "tru", "TRUE", "fals", "falsee", "undefined", "nulltrue", "null,", "null,null", ",", ":", "x", "\x00", "\xff", "é",
		"-", " -", "-1", "  -1", " - 1", " -", "--1", " --1", "- 1", "-0", " -0", " 0", " 1", "00", "01", "007", " -01", "0-", "1-", "1-1", "1 1", "1 -1", "+1", "1.0", "1e1", "1_0", "0x1", "1 ", "1\n", "\t1", "\t-1", "\u00a0-1", "1,2", "\u0661",
		"9223372036854775808", " -9223372036854775809", "-9223372036854775808", "18446744073709551616", "18446744073709551617", "99999999999999999999", " -99999999999999999999", strings.Repeat("9", 1000), strings.Repeat("0", 1000), strings.Repeat(" ", 1000), strings.Repeat("-", 1000),
		`"`, `"a`, `a"`, `a`, `'a'`, "`a`", `""a`, `"a""b"`, `"a" `, ` "a"`, `"a","b"`, `"a":`, `"a":1`, `"<"`, `">"`, `"/"`, `"-"`, `"'"`, `"é"`, "\"\n\"", "\"\t\"", "\"\x00\"", "\"\xff\"", "\"\x7f\"", "\"\u2028\"",
		`"\u0000"`, `"\u0061"`, `"\u0041"`, `"\u0030"`, `"\u0020"`, `"\u002c"`, `"\u002e"`, `"\u005f"`, `"\u003C"`, `"\u003c\u003C"`, `"\U003c"`, `"\u03c"`, `"\u003"`, `"\u00"`, `"\u"`, `"\"`, `"\\"`, `"\n"`, `"\t"`, `"\""`, `"\'"`, `"\/"`, `"\x3c"`, `"\u{3c}"`, `"\u{003c}"`, `"\u+03c"`, `"\u 03c"`, `"\u00e9`, `"\u00e`, `"\u`, `"\`, `\u003c`,
		`"\ud800"`, `"\udbff"`, `"\udc00"`, `"\udfff"`, `"\ud83d"`, `"\ude00"`, `"\ude00\ud83d"`, `"\ud83d\ud83d"`, `"\ude00\ude00"`, `"\ud83da"`, `"\ud83d\u0061"`, `"\ud83d\u003c"`, `"\ud83d\u"`, `"\ud83d\ude0"`, `"\ud83d`, `"\ud83d\`, `"\ud83d\ude00\ude00"`, `"\ud83d\ud83d\ude00"`, `"\uD83D\uDE00"`, `"\ud83d\uDE00"`, `"\ud800\ue000"`, `"\ud800\udbff"`, `"\ud7ff\udc00"`, `"\ue000\udc00"`, `"\ud83d \ude00"`, `"😀"`,
		"[", "]", "[]]", "[[]", "[1", "[1,", "[1,]", "[,]", "[,1]", "[1,,2]", "[1 ]", "[ 1]", "[ ]", "[1, 2]", "[1 ,2]", "[1,-2]", "[1,  -2]", "[ -1 ]", "[1 2]", "[1;2]", "[][]", "[]1", "1[]", "[1:2]", `["a":1]`, `["a":]`, "[}", "{]", "[1}", "{1]", "(1)", "[null", "[\"a", "[\"a\"", "[[1]", "[1]]", "[1] ", " [1]", "[1],", "[1]null",
		"{", "}", "{{}", "{}}", `{"a"`, `{"a":`, `{"a":1`, `{"a":1,`, `{"a":1,}`, `{"a":}`, `{"a":,"b":1}`, `{:1}`, `{"a":1:2}`, `{"a":"b":1}`, `{"a":"b":"c"}`, `{a:1}`, `{'a':1}`, `{null:1}`, `{1:1}`, `{[]:1}`, `{"a" :1}`, `{"a": 1}`, `{ "a":1}`, `{"a":1 }`, `{"a":1, "b":2}`, `{"a":1 ,"b":2}`, `{"a":1;"b":2}`, `{"a":1"b":2}`, `{,}`, `{,"a":1}`, `{"a":1,,"b":2}`, `{"a"::1}`, `{"a",:1}`, `{ }`, `{1,"a":2}`, `{"a","b":1}`, `{"a":1,2,"b":3}`, `{"a":1,"b","c":3}`, `{"\u0061":1}`, `{"<":1}`, `{"a:1}`, `{"a":{}`, `{"a":1}}`, `{"a":1}{}`, `{"a":1]`,
	}
}

func TestReadOfWhatIsNoLiteral(t *testing.T) { // P5.2, P4
	for _, s := range noLiterals() {
		for _, s := range []string{s, "[" + s + "]", "{\"k\":" + s + "}"} {
			if ok, _ := isLiteral(s); ok { // a comma in a list is a fault no more
				continue
			}
			v, n, err := Read(s)
			if !reflect.DeepEqual(v, api.Value{}) || n != 0 || err != api.ErrSyntax {
				t.Errorf("P5.2: Read(%.40q) is %+v, %d, %d", s, v, n, err)
			}
		}
		if ok, _ := isLiteral(s); ok {
			t.Errorf("%.40q is a literal", s)
		}
	}
}

func TestReadOfNumbersBesideNone(t *testing.T) { // P5.2
	for n := 1; n < math.MaxInt/3; n = n*3 - n/2 + 1 {
		for _, n := range []int{n, -n, math.MaxInt - n, math.MinInt + n} {
			told := strconv.Itoa(n)
			for _, s := range []string{told, " " + told, "  " + told, "0" + told, told + "0", "-" + told, " -" + told, told + " ", "+" + told, "[" + told + "]", "[ " + told + "]"} {
				lookAtRead(t, s)
			}
		}
	}
}

// eachText calls do for each text of up to size octets of an alphabet.
func eachText(alphabet string, size int, do func(s string)) {
	var grow func(s string, left int)
	grow = func(s string, left int) {
		do(s)
		if left > 0 {
			for i := range len(alphabet) {
				grow(s+alphabet[i:i+1], left-1)
			}
		}
	}
	grow("", size)
}

func TestReadOfSmallTexts(t *testing.T) { // P5.2, P5.3
	for _, c := range []struct {
		alphabet string
		size     int
	}{
		{"[]{},:\"a10- ", 4}, {"[],1", 7}, {"{}:\"1,", 6}, {"\"\\u03c<a", 5}, {" -019,[]", 5},
	} {
		eachText(c.alphabet, c.size, func(s string) { lookAtRead(t, s) })
	}
	eachText("038cdefDF\\u", 4, func(s string) {
		lookAtRead(t, `"\u`+s+`"`)
	})
	eachText("cdu\\", 3, func(s string) {
		lookAtRead(t, `"\ud8`+s+`\udc00"`)
		lookAtRead(t, `"\ud8aa\ud`+s+`"`)
	})
}

func TestReadOfEveryUnit(t *testing.T) { // P5.2
	for unit := range 0x10000 {
		told := strconv.FormatInt(int64(unit)|0x10000, 16)[1:]
		for _, s := range []string{`"\u` + told + `"`, `"\u` + strings.ToUpper(told) + `"`, `"\ud83d\u` + told + `"`, `"\u` + told + `\ude00"`} {
			v, n, err := Read(s)
			if ok := isQuoted(s); ok != (err == api.OK) || ok && (n != len(s) || quoted(v.Text) != s) || !ok && (n != 0 || err != api.ErrSyntax) {
				t.Fatalf("P5.2: Read(%s) is %+v, %d, %d", s, v, n, err)
			}
		}
	}
}

func TestReadOfEveryOctetAsItIs(t *testing.T) { // P5.2
	for c := range 256 {
		one := string([]byte{byte(c)})
		for _, s := range []string{one, `"` + one + `"`, `"a` + one + `b"`, `"` + one, one + `""`, `""` + one, `[` + one + `]`, `[` + one + `1]`, `[1` + one + `2]`, `{"a"` + one + `1}`, `"\` + one + `"`, `"\` + one + `003c"`, `"\u` + one + `03c"`, `"\u003` + one + `"`, "nul" + one} {
			lookAtRead(t, s)
		}
	}
}

// changed calls do for s with one octet left out, put in or changed, at each place, and cut off there.
func changed(s string, octets string, do func(s string)) {
	for at := range len(s) + 1 {
		do(s[:at])
		do(s[at:])
		for i := range len(octets) {
			do(s[:at] + octets[i:i+1] + s[at:])
		}
		if at == len(s) {
			continue
		}
		do(s[:at] + s[at+1:])
		do(s[:at] + s[at:at+1] + s[at:])
		for i := range len(octets) {
			do(s[:at] + octets[i:i+1] + s[at+1:])
		}
	}
}

func TestReadOfChangedLiterals(t *testing.T) { // P5.2
	const octets = "[]{},:\"\\u \t\n-0189aAfF<n.\x00\xff"
	for _, v := range readable() {
		if s := Literal(v); len(s) <= 200 {
			changed(s, octets, func(s string) { lookAtRead(t, s) })
		}
	}
}

func TestReadOfBlanks(t *testing.T) { // P5.2
	const s = `[null,{"a": -1,"b":["x y",true]}, -2]`
	for at := range len(s) + 1 {
		lookAtRead(t, s[:at]+" "+s[at:])
		for _, blank := range []string{"\t", "\n", "\r", "\f", "\v", "\u00a0", "\ufeff", "/**/"} { // these stand nowhere as they are
			if v, n, err := Read(s[:at] + blank + s[at:]); err != api.ErrSyntax || n != 0 {
				t.Errorf("P5.2: Read with %q at %d is %+v, %d, %d", blank, at, v, n, err)
			}
		}
	}
}

func TestReadByDepth(t *testing.T) { // P5.2, Limits
	arounds := []func(v api.Value) api.Value{inList, inRecord, inNoKey, inBoth, func(v api.Value) api.Value { return listOf(intOf(-1), v, textOf("]")) }, func(v api.Value) api.Value { return recordOf("a b c", kindOf(1), v, intOf(2)) }}
	for _, around := range arounds {
		for _, inner := range []api.Value{kindOf(0), intOf(-1), textOf("[[{"), listOf(), recordOf(""), listOf(intOf(1), intOf(2)), recordOf("a", intOf(1))} {
			for count := api.MaxNest - 2; count <= api.MaxNest+2; count++ {
				v := nest(count, inner, around)
				want := api.OK
				if count > api.MaxNest || count == api.MaxNest && inner.Kind > 4 {
					want = api.ErrDepth
				}
				got, n, err := Read(Literal(v))
				if err != want || want == api.OK && (!values.Same(got, v) || n != len(Literal(v))) || want != api.OK && (n != 0 || !reflect.DeepEqual(got, api.Value{})) {
					t.Errorf("P5.2: Read of %s is %d, %d, not %d", Literal(v), n, err, want)
				}
			}
		}
	}
	beside := listOf(nest(api.MaxNest-1, intOf(1), inList), nest(api.MaxNest-1, intOf(1), inRecord), nest(api.MaxNest-1, intOf(1), inBoth))
	if got, _, err := Read(Literal(beside)); err != api.OK || !values.Same(got, beside) {
		t.Errorf("P5.2: Read of lists beside one another is %d", err)
	}
}

func TestReadOfTwoFaults(t *testing.T) { // P5.2, P4
	deep := func(count int) (string, string) { return strings.Repeat("[", count), strings.Repeat("]", count) }
	for _, count := range []int{api.MaxNest, api.MaxNest + 1, 100, mostDeep} {
		ahead, behind := deep(count)
		want := api.ErrDepth
		if count <= api.MaxNest {
			want = api.OK
		}
		for s, want := range map[string]api.Errno{
			ahead + behind:                          want,
			ahead + "1" + behind:                    want,
			ahead + behind[1:]:                      api.ErrSyntax,
			ahead + behind + "]":                    api.ErrSyntax,
			ahead + "x" + behind:                    api.ErrSyntax,
			ahead:                                   api.ErrSyntax,
			ahead + "\"":                            api.ErrSyntax,
			ahead + "\"\\u0061\"" + behind:          api.ErrSyntax,
			ahead + behind + " ":                    api.ErrSyntax,
			" " + ahead + behind:                    api.ErrSyntax,
			ahead + "1," + behind:                   api.ErrSyntax,
			ahead + strings.Repeat("}", count):      api.ErrSyntax,
			ahead + "]" + behind:                    api.ErrSyntax,
			ahead + "[" + behind:                    api.ErrSyntax,
			ahead[1:] + "{\"a\":" + "1" + behind:    api.ErrSyntax,
			ahead[1:] + "{\"a\":1}" + behind[1:]:    want,
			ahead[1:] + "{" + "01" + "}" + behind:   api.ErrSyntax,
			ahead[1:] + "[ 1" + behind:              api.ErrSyntax,
			ahead[1:] + "[" + behind[1:] + ",null]": want,
		} {
			if v, n, err := Read(s); err != want || err != api.OK && (n != 0 || !reflect.DeepEqual(v, api.Value{})) {
				t.Errorf("P4: Read of %.20q.. of %d octets is %d, %d, not %d", s, len(s), n, err, want)
			}
		}
	}
}

func TestReadOfVeryDeepTexts(t *testing.T) { // P1, Limits
	for _, around := range []func(v api.Value) api.Value{inList, inRecord, inNoKey, inBoth} {
		v := nest(mostDeep, textOf("<"), around)
		s := Literal(v)
		if _, n, err := Read(s); n != 0 || err != api.ErrDepth {
			t.Errorf("P5.2: Read of a very deep literal is %d, %d", n, err)
		}
		if _, n, err := Read(s[:len(s)-1]); n != 0 || err != api.ErrSyntax {
			t.Errorf("P5.2: Read of a very deep literal without its end is %d, %d", n, err)
		}
		if !strings.HasSuffix(strings.TrimRight(s, "]}"), Quote("<")) || !Safe(s) {
			t.Error("P5.1: Literal of a very deep value")
		}
	}
	for _, s := range []string{"[", "{", "{\"a\":", "[[],", "{\"a\":[1],\"b\":"} {
		if _, n, err := Read(strings.Repeat(s, 1<<18)); n != 0 || err != api.ErrSyntax {
			t.Errorf("P5.2: Read of very many of %s is %d, %d", s, n, err)
		}
	}
}

func TestReadOfLongTexts(t *testing.T) { // P5.2, Limits
	list, keys := many(1 << 14)
	for _, v := range []api.Value{textOf(strings.Repeat("<é😀a", 1<<14)), listOf(list...), keyed(keys, list...), keyed(keys[:7], list...), keyed([]string{strings.Repeat("k", 1<<16)}, listOf())} {
		got, n, err := Read(Literal(v))
		if !values.Same(got, v) || n != len(Literal(v)) || err != api.OK {
			t.Errorf("P5.2: Read of a literal of %d octets is %d, %d", len(Literal(v)), n, err)
		}
	}
}

// someValue answers a value of Kinds 0 to 6 by chance.
func someValue(r *rand.Rand, deep int) api.Value {
	texts := oddTexts()[:46]
	someText := func() string { return utf.Repair(texts[r.Intn(len(texts))] + texts[r.Intn(len(texts))]) }
	kind := r.Intn(7)
	if deep == 0 {
		kind = r.Intn(5)
	}
	v := kindOf(kind)
	switch {
	case kind == 3:
		v.Int = int(r.Uint64() >> r.Intn(64))
	case kind == 4:
		v.Text = someText()
	case kind > 4:
		for range r.Intn(4) {
			v.List = append(v.List, someValue(r, deep-1))
			if kind == 6 && len(v.Keys) == len(v.List)-1 && r.Intn(9) > 0 {
				v.Keys = append(v.Keys, someText())
			}
		}
	}
	return v
}

func TestReadOfManyLiterals(t *testing.T) { // P5.2, P5.3
	r := rand.New(rand.NewSource(5))
	for range 3000 {
		v := someValue(r, 6)
		s := Literal(v)
		if got, n, err := Read(s); !values.Same(got, v) || n != len(s) || err != api.OK {
			t.Fatalf("P5.3: %s is read as %+v, %d, %d", s, got, n, err)
		}
		for range 20 {
			at, from := r.Intn(len(s)+1), r.Intn(len(s)+1)
			to := from + r.Intn(min(len(s)-from, 6)+1)
			lookAtRead(t, s[:at]+s[from:to]+s[at:])
			lookAtRead(t, s[:from]+s[to:])
			lookAtRead(t, s[:at]+s[from:])
		}
	}
}
