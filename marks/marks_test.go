package marks

import (
	"math"
	"strings"
	"testing"

	"muslin/api"
)

// checks tells of Check of each state whether it is want.
func checks(t *testing.T, want api.Errno, states ...api.State) {
	t.Helper()
	for _, s := range states {
		if got := Check(s); got != want {
			t.Errorf("P13.1: Check(%+v) is %d, not %d", s, got, want)
		}
	}
}

func TestStart(t *testing.T) { // P13.1
	if s := Start(); s != (api.State{}) {
		t.Errorf("P13.1: Start is %+v", s)
	}
	checks(t, api.OK, Start())
	if !Same(Start(), Start()) || Differ(Start(), Start()) != 0 || Kind(Start()) != 0 {
		t.Error("P13.1: Start is not one")
	}
}

func TestCheckOfKinds(t *testing.T) { // P13.1, P4
	for kind := range 20 {
		checks(t, api.OK, bare(kind))
	}
	for _, kind := range []int{-1, 20, -2, 21, 255, 256, 1 << 32, 1<<32 + 3, -1 << 32, math.MaxInt, math.MinInt} {
		checks(t, api.ErrRange, api.State{Kind: kind}, api.State{Kind: kind, Delim: '"'})
		checks(t, api.ErrRange, api.State{Kind: kind, Elem: strings.Repeat("a", 99), Attr: "b", Delim: 'x', Pend: "c", Ref: "d", Part: -1, Word: "e"})
		for field := 2; field <= 8; field++ {
			checks(t, api.ErrRange, with(api.State{Kind: kind}, field, false))
		}
	}
}

func TestCheckOfEachFieldInEachKind(t *testing.T) { // P13.1
	for kind := range 20 {
		for field := 2; field <= 8; field++ {
			s := with(bare(kind), field, false)
			used := strings.Contains(usedBy(kind), string(" KEADPRpW"[field]))
			if field != 4 {
				checks(t, oneOf(used, api.OK, api.ErrState), s)
			} else {
				checks(t, api.ErrState, s) // 9 has its quote already
			}
		}
	}
	checks(t, api.OK, api.State{Ref: "&"}, api.State{Kind: 16, Pend: "-"}, api.State{Kind: 17, Elem: "title", Pend: "</", Ref: "&l"})
	checks(t, api.ErrState, api.State{Elem: "p"}, api.State{Kind: 1, Elem: "p"}, api.State{Kind: 2, Elem: "/"}, api.State{Kind: 13, Pend: "-"}, api.State{Kind: 14, Pend: "-"}, api.State{Kind: 15, Pend: "-"}, api.State{Kind: 16, Elem: "p"}, api.State{Kind: 16, Ref: "&"}, api.State{Kind: 18, Ref: "&"}, api.State{Kind: 19, Ref: "&"}, api.State{Kind: 17, Part: 1}, api.State{Kind: 17, Word: "a"}, api.State{Kind: 5, Attr: "a"}, api.State{Kind: 11, Attr: "a"}, api.State{Kind: 12, Attr: "a"}, api.State{Kind: 8, Ref: "&"}, api.State{Kind: 8, Elem: "a", Attr: "href", Part: 1}, api.State{Kind: 7, Elem: "a", Attr: "style", Word: "a"})
}

func oneOf(good bool, a api.Errno, b api.Errno) api.Errno {
	if good {
		return a
	}
	return b
}

func TestCheckOfLengths(t *testing.T) { // P13.1, Limits
	of := func(n int) string { return strings.Repeat("a", n) }
	for kind := range 20 {
		for n := range 70 {
			for _, one := range []string{of(n), "/" + of(n), strings.Repeat("é", n), strings.Repeat("\xff", n)} {
				for field := 2; field <= 8; field++ {
					s := bare(kind)
					switch field {
					case 2:
						s.Elem = one
					case 3:
						s.Attr = one
					case 5:
						s.Pend = one
					case 6:
						s.Ref = one
					case 7:
						s.Part = n
					case 8:
						s.Word = one
					}
					checks(t, checked(s), s)
				}
			}
		}
	}
	checks(t, api.OK, api.State{Kind: 3, Elem: of(33)}, api.State{Kind: 4, Elem: "/" + of(32)}, api.State{Kind: 17, Elem: of(33)}, api.State{Kind: 6, Attr: of(32)}, api.State{Kind: 10, Attr: of(32)}, api.State{Kind: 16, Pend: of(34)}, api.State{Kind: 19, Pend: of(34)}, api.State{Ref: of(16)}, api.State{Kind: 17, Ref: of(16)}, api.State{Kind: 19, Word: of(16)}, api.State{Kind: 10, Attr: "href", Word: of(16)})
	checks(t, api.ErrState, api.State{Kind: 3, Elem: of(34)}, api.State{Kind: 4, Elem: "/" + of(33)}, api.State{Kind: 17, Elem: of(34)}, api.State{Kind: 6, Attr: of(33)}, api.State{Kind: 10, Attr: of(33)}, api.State{Kind: 16, Pend: of(35)}, api.State{Kind: 19, Pend: of(35)}, api.State{Ref: of(17)}, api.State{Kind: 17, Ref: of(17)}, api.State{Kind: 19, Word: of(17)}, api.State{Kind: 10, Attr: "href", Word: of(17)})
	checks(t, api.ErrState, api.State{Kind: 6, Attr: "/" + of(32)}, api.State{Kind: 6, Attr: strings.Repeat("é", 17)}, api.State{Kind: 19, Word: strings.Repeat("é", 9)}, api.State{Kind: 3, Elem: of(1 << 20)})
}

func TestCheckOfParts(t *testing.T) { // P13.1
	for n := range 16 {
		checks(t, api.OK, api.State{Kind: 18, Part: n}, api.State{Kind: 19, Part: n}, api.State{Kind: 10, Attr: "src", Part: n, Word: "a"}, api.State{Kind: 9, Elem: "p", Attr: "onclick", Delim: '"', Part: n}, api.State{Kind: 10, Attr: "style", Part: n})
	}
	for _, n := range []int{-1, 16, 17, 255, 256, 1 << 32, -15, math.MinInt, math.MaxInt} {
		checks(t, api.ErrState, api.State{Kind: 18, Part: n}, api.State{Kind: 19, Part: n}, api.State{Kind: 10, Attr: "src", Part: n}, api.State{Kind: 9, Attr: "on", Delim: '"', Part: n}, api.State{Part: n}, api.State{Kind: 10, Part: n})
	}
}

func TestCheckOfPartsInValues(t *testing.T) { // P13.1
	kinds := []api.State{{Kind: 9, Delim: '"'}, {Kind: 9, Delim: '\''}, {Kind: 10}}
	holds := func(want api.Errno, elem string, attr string) {
		t.Helper()
		for _, s := range kinds {
			s.Elem, s.Attr = elem, attr
			checks(t, api.OK, s, api.State{Kind: s.Kind, Elem: elem, Attr: attr, Delim: s.Delim, Ref: "&"})
			one, two, both := s, s, s
			one.Part, two.Word, both.Part, both.Word = 1, "a", 15, "b"
			checks(t, want, one, two, both)
		}
	}
	for _, elem := range []string{"", "a", "p", "object", "script", "A", "é", "a/"} {
		for _, attr := range partedAttrs() {
			holds(api.OK, elem, attr)
			holds(api.ErrState, "/"+elem, attr)
		}
		for _, attr := range plainAttrs() {
			if elem != "object" || attr != "data" {
				holds(api.ErrState, elem, attr)
			}
			holds(api.ErrState, "/"+elem, attr)
		}
	}
	holds(api.OK, "object", "data")
	holds(api.ErrState, "/object", "data")
	holds(api.ErrState, "/", "href")
	holds(api.ErrState, "Object", "data")
}

func TestCheckOfQuotes(t *testing.T) { // P13.1
	for c := range 256 {
		quote := c == '"' || c == '\''
		checks(t, oneOf(quote, api.OK, api.ErrState), api.State{Kind: 9, Delim: byte(c)}, api.State{Kind: 9, Elem: "a", Attr: "href", Delim: byte(c), Ref: "&", Part: 1, Word: "x"})
		for kind := range 20 {
			if kind != 9 {
				checks(t, oneOf(c == 0, api.OK, api.ErrState), api.State{Kind: kind, Delim: byte(c)})
			}
		}
	}
}

func TestCheckOfTagsAndTexts(t *testing.T) { // P13.1
	for kind := 3; kind <= 12; kind++ { // the words do not ask whether the kind is a start tag's
		for _, elem := range []string{"/", "/a", "//", "a/", "", "a", "A", "1", "\x00", "\xff", "é", " ", "|", "%"} {
			s := bare(kind)
			s.Elem = elem
			checks(t, api.OK, s)
		}
	}
	for _, text := range []string{"a", "-", "--", "---", "</", "</p", "<!--", "\x00", "\xff", "x y", "&&", "|"} {
		checks(t, api.OK, api.State{Ref: text}, api.State{Kind: 16, Pend: text}, api.State{Kind: 17, Elem: text, Pend: text, Ref: text}, api.State{Kind: 18, Elem: text, Pend: text, Word: text}, api.State{Kind: 19, Pend: text, Word: text, Part: 15}, api.State{Kind: 6, Elem: text, Attr: text})
	}
}

func TestCheckOfTwoFaults(t *testing.T) { // P13.1, P4
	for kind := -2; kind < 22; kind++ {
		for one := 2; one <= 8; one++ {
			for two := 2; two <= 8; two++ {
				s := with(with(api.State{Kind: kind}, one, false), two, true)
				checks(t, checked(s), s)
			}
		}
	}
	checks(t, api.ErrState, api.State{Elem: "a", Word: "b"}, api.State{Kind: 9, Part: 16}, api.State{Kind: 3, Elem: strings.Repeat("a", 34), Part: -1})
}

func TestCheckOfManyStates(t *testing.T) { // P13.1
	may := 0
	for kind := -1; kind < 21; kind++ {
		for _, elem := range []string{"", "a", "/a", "object", "/object", strings.Repeat("a", 33), strings.Repeat("a", 34)} {
			for _, attr := range []string{"", "class", "href", "onclick", "style", "data", "srcdoc", "on" + strings.Repeat("a", 31)} {
				for set := range 1 << 5 {
					s := api.State{Kind: kind, Elem: elem, Attr: attr}
					for field := 4; field <= 8; field++ {
						if set>>(field-4)&1 == 1 {
							s = with(s, field, false)
						}
					}
					if s.Delim != 0 {
						s.Delim = '\''
					}
					checks(t, checked(s), s)
					if Check(s) == api.OK {
						may++
					}
				}
			}
		}
	}
	if may < 500 {
		t.Errorf("P13.1: just %d of the states may be", may)
	}
	for _, s := range oddStates() {
		checks(t, checked(s), s)
	}
	checks(t, api.OK, goodStates()...)
}

func TestSameAndDiffer(t *testing.T) { // P13.1
	for _, s := range oddStates() {
		if !Same(s, s) || Differ(s, s) != 0 {
			t.Errorf("P13.1: %+v is not one with itself", s)
		}
		for one := 1; one <= 8; one++ {
			a := with(s, one, false)
			if Same(s, a) || Same(a, s) || Differ(s, a) != one || Differ(a, s) != one {
				t.Errorf("P13.1: states that differ in %s: %v, %d, %d", fieldNames()[one-1], Same(s, a), Differ(s, a), Differ(a, s))
			}
			for two := 1; two <= 8; two++ {
				b := with(a, two, true)
				if first := min(one, two); Same(s, b) || Same(b, s) || Differ(s, b) != first || Differ(b, s) != first {
					t.Errorf("P13.1: states that differ in %s and %s: %v, %d, %d", fieldNames()[one-1], fieldNames()[two-1], Same(s, b), Differ(s, b), Differ(b, s))
				}
			}
		}
	}
	all := oddStates()
	for _, a := range all {
		for _, b := range all {
			if Same(a, b) != (a == b) || (Differ(a, b) == 0) != (a == b) || Differ(a, b) != Differ(b, a) {
				t.Fatalf("P13.1: %+v and %+v: %v, %d", a, b, Same(a, b), Differ(a, b))
			}
		}
	}
}

func TestSameAndDifferOfTextsInOwnMemory(t *testing.T) { // P13.1
	own := func(s api.State) api.State {
		return api.State{Kind: s.Kind, Elem: strings.Clone(s.Elem), Attr: strings.Clone(s.Attr), Delim: s.Delim, Pend: strings.Clone(s.Pend), Ref: strings.Clone(s.Ref), Part: s.Part, Word: strings.Clone(s.Word)}
	}
	for _, s := range oddStates() {
		if !Same(s, own(s)) || Differ(own(s), s) != 0 {
			t.Errorf("P13.1: %+v is not one with another one like it", s)
		}
	}
	for _, pair := range [][2]api.State{{{Elem: "a"}, {Elem: "A"}}, {{Word: "a"}, {Word: "a\x00"}}, {{Ref: "é"}, {Ref: "e\u0301"}}, {{Pend: "\xff"}, {Pend: "\ufffd"}}, {{Elem: "ab", Attr: ""}, {Elem: "a", Attr: "b"}}, {{Kind: 1 << 32}, {}}, {{Part: 256}, {Part: 0}}, {{Delim: 0}, {Delim: 255}}} {
		if Same(pair[0], pair[1]) || Differ(pair[0], pair[1]) == 0 {
			t.Errorf("P13.1: %+v is one with %+v", pair[0], pair[1])
		}
	}
}

func TestKind(t *testing.T) { // P13.1
	for _, c := range []struct {
		elem, attr string
		want       int
	}{
		{"a", "href", 1}, {"", "href", 1}, {"p", "src", 1}, {"form", "action", 1}, {"object", "data", 1}, {"p", "data", 0}, {"a", "data", 0}, {"", "data", 0}, {"Object", "data", 0}, {"object ", "data", 0},
		{"p", "onclick", 2}, {"object", "on", 2}, {"p", "style", 3}, {"object", "style", 3}, {"p", "srcdoc", 4}, {"img", "srcset", 4}, {"meta", "http-equiv", 4}, {"a", "ping", 4}, {"svg", "xmlns", 4}, {"p", "", 4}, {"", "", 4},
		{"p", "class", 0}, {"p", "id", 0}, {"p", "HREF", 0}, {"p", "Style", 0}, {"a/", "href", 1}, {"\xff", "href", 1}, {" /a", "href", 1},
		{strings.Repeat("a", 99), "href", 1}, {"p", "on" + strings.Repeat("a", 99), 2},
		{"/a", "href", 0}, {"/", "href", 0}, {"/object", "data", 0}, {"/p", "onclick", 0}, {"/p", "style", 0}, {"/p", "srcdoc", 0}, {"/p", "", 0}, {"//", "style", 0}, {"/p", "class", 0},
	} {
		for kind := -3; kind < 24; kind++ {
			want := 0
			if kind == 8 || kind == 9 || kind == 10 {
				want = c.want
			}
			for _, s := range []api.State{{Kind: kind, Elem: c.elem, Attr: c.attr}, {Kind: kind, Elem: c.elem, Attr: c.attr, Delim: '"', Pend: "x", Ref: "&", Part: 99, Word: "w"}} {
				if got := Kind(s); got != want {
					t.Errorf("P13.1: Kind(%+v) is %d, not %d", s, got, want)
				}
			}
		}
		for _, kind := range []int{math.MinInt, math.MaxInt, 1<<32 + 9, 256 + 8} {
			if got := Kind(api.State{Kind: kind, Elem: c.elem, Attr: c.attr}); got != 0 {
				t.Errorf("P13.1: Kind of a state of kind %d is %d", kind, got)
			}
		}
	}
}
