package scan

import (
	"strings"
	"testing"

	"muslin/api"
	"muslin/marks"
)

// way is where octets lead to from a state: the state's text, in which ~ stands for the octet, small; = for the same state; or an error.
type way struct {
	octets string
	to     string
	err    api.Errno
}

// asWays holds Step of each octet from the state from against ways, of which the first that has the octet counts.
func asWays(t *testing.T, from string, ways ...way) {
	t.Helper()
	for _, c := range []byte(every()) {
		for _, w := range ways {
			if strings.IndexByte(w.octets, c) >= 0 {
				want := api.State{}
				switch {
				case w.to == sames:
					want = st(from)
				case w.err == api.OK:
					want = st(w.to)
					put := func(s string) string { return strings.ReplaceAll(s, "~", small(octet(c))) }
					want.Elem, want.Attr, want.Word = put(want.Elem), put(want.Attr), put(want.Word)
				}
				steps(t, st(from), c, want, w.err)
				break
			}
		}
	}
}

const letters = "abcdefghijklmnopqrstuvwxyzABCDEFGHIJKLMNOPQRSTUVWXYZ"

func to(octets string, state string) way {
	return way{octets, state, api.OK}
}

// rest is the way of all octets that no way ahead of it has.
func rest(state string) way {
	return to(every(), state)
}

func wrong(octets string, err api.Errno) way {
	return way{octets, "", err}
}

func TestStepOutsideOfTags(t *testing.T) { // P17.1
	data, tag, bogus := "0|||0|||0|", to(letters, "3|~||0|||0|"), "15|||0|||0|"
	asWays(t, data, to("<", "1|||0|||0|"), to("&", "0|||0||%26|0|"), rest(data))
	asWays(t, "1|||0|||0|", tag, to("/", "2|||0|||0|"), to("!", "13|||0|||0|"), to("?", bogus), to("<", sames), to("&", "0|||0||%26|0|"), rest(data))
	asWays(t, "2|||0|||0|", to(letters, "4|%2f~||0|||0|"), to(">", data), rest(bogus))
	asWays(t, "13|||0|||0|", to("-", "14|||0|||0|"), to(">", data), rest(bogus))
	asWays(t, "14|||0|||0|", to("-", "16|||0|||0|"), to(">", data), rest(bogus))
	asWays(t, bogus, to(">", data), rest(bogus))
	asWays(t, "16|||0|||0|", to("-", "16|||0|-||0|"), rest(sames))
	asWays(t, "16|||0|-||0|", to("-", "16|||0|--||0|"), rest("16|||0|||0|"))
	asWays(t, "16|||0|--||0|", to("-", sames), to(">", data), rest("16|||0|||0|"))
}

func TestStepInTags(t *testing.T) { // P17.1
	for _, elem := range []string{"p", "%2fp", "%2ftitle", "%2fscript", "%2fiframe", "a1-%3c", "%2f", "P", "TITLE", "titl", "titles"} {
		data := "0|||0|||0|"
		before, slash := "5|"+elem+"||0|||0|", "12|"+elem+"||0|||0|"
		ends := []way{to(blanks, before), to("/", slash), to(">", data)}
		asWays(t, "3|"+elem+"||0|||0|", append(ends, rest("3|"+elem+"~||0|||0|"))...)
		asWays(t, "4|"+elem+"||0|||0|", append(ends, rest("4|"+elem+"~||0|||0|"))...)
		name := "6|" + elem + "|~|0|||0|"
		asWays(t, before, append(ends, rest(name))...)
		asWays(t, "11|"+elem+"||0|||0|", append(ends, rest(name))...)
		asWays(t, slash, to(blanks, before), to("/", sames), to(">", data), rest(name))
		for _, attr := range []string{"x", "href", "onclick", "style", "srcdoc", "HREF", "a%22%3c-1"} {
			of := elem + "|" + attr
			behind := []way{to(blanks, "7|"+of+"|0|||0|"), to("/", slash), to(">", data), to("=", "8|"+of+"|0|||0|")}
			asWays(t, "6|"+of+"|0|||0|", append(behind, rest("6|"+of+"~|0|||0|"))...)
			asWays(t, "7|"+of+"|0|||0|", append(behind, rest(name))...)
			value := []way{to(blanks, sames), to("\"", "9|"+of+"|34|||0|"), to("'", "9|"+of+"|39|||0|"), to(">", data), to("&", "10|"+of+"|0||%26|0|")}
			if marks.Kind(st("8|"+of+"|0|||0|"))%4 == 0 { // others have parts
				value = append(value, rest("10|"+of+"|0|||0|"))
			}
			asWays(t, "8|"+of+"|0|||0|", value...)
		}
	}
}

func TestStepInValuesWithoutParts(t *testing.T) { // P17.1
	for _, of := range []string{"p|x", "p|srcdoc", "p|", "%2fa|href", "%2fa|onclick", "%2fa|style", "a|HREF", "a|data", "script|type", "|class"} {
		elem, _, _ := strings.Cut(of, "|")
		behind := "11|" + elem + "||0|||0|"
		asWays(t, "9|"+of+"|34|||0|", to("\"", behind), to("&", "9|"+of+"|34||%26|0|"), rest(sames))
		asWays(t, "9|"+of+"|39|||0|", to("'", behind), to("&", "9|"+of+"|39||%26|0|"), rest(sames))
	}
	for _, of := range []string{"p|x", "p|srcdoc", "p|", "%2fa|href", "%2fscript|onclick", "%2fa|style", "a|HREF", "a|data", "|class"} {
		elem, _, _ := strings.Cut(of, "|")
		asWays(t, "10|"+of+"|0|||0|", to(blanks, "5|"+elem+"||0|||0|"), to(">", "0|||0|||0|"), to("&", "10|"+of+"|0||%26|0|"), rest(sames))
	}
	for kind, name := range map[string]string{"17": "title", "18": "style", "19": "script"} {
		asWays(t, "10|"+name+"|type|0|||0|", to(">", kind+"|"+name+"||0|||0|"), to("/=\"'<`", sames))
	}
}

func TestNamesAsLongAsTheyMayBe(t *testing.T) { // P17.1
	for size := 1; size < 70; size++ {
		name := strings.Repeat("nM", 40)[:size]
		for ahead, kind := range map[string]int{"<": 3, "x</": 4, "<p ": 6, "</p ": 6, "<p a=b ": 6, "<p/": 6, "<p a='b'": 6, "<p a ": 6} {
			if size > 32 {
				refuses(t, api.State{}, ahead+name, len(ahead)+32, api.ErrLong)
				refuses(t, api.State{}, ahead+name+">", len(ahead)+32, api.ErrLong)
				continue
			}
			want := api.State{Kind: kind, Elem: small(name)}
			switch {
			case ahead == "x</":
				want.Elem = "/" + want.Elem
			case kind == 6:
				want.Elem, want.Attr = "p", small(name)
			}
			if ahead == "</p " {
				want.Elem = "/p"
			}
			leads(t, api.State{}, ahead+name, want)
			leads(t, api.State{}, ahead+name+">", api.State{})
			leads(t, api.State{}, ahead+name+" ", api.State{Kind: map[bool]int{true: 7, false: 5}[kind == 6], Elem: want.Elem, Attr: want.Attr})
			leads(t, api.State{}, ahead+name+"/", api.State{Kind: 12, Elem: want.Elem})
		}
	}
	long := strings.Repeat("a", 32)
	for _, c := range []byte(but(blanks + "/>")) {
		steps(t, api.State{Kind: 3, Elem: long}, c, api.State{}, api.ErrLong)
		steps(t, api.State{Kind: 3, Elem: long + "a"}, c, api.State{}, api.ErrLong) // no name of a step's
		steps(t, api.State{Kind: 4, Elem: "/" + long}, c, api.State{}, api.ErrLong)
		steps(t, api.State{Kind: 3, Elem: "/" + long}, c, api.State{}, api.ErrLong)
		steps(t, api.State{Kind: 3, Elem: long[1:]}, c, api.State{Kind: 3, Elem: long[1:] + small(octet(c))}, api.OK)
		steps(t, api.State{Kind: 4, Elem: "/" + long[1:]}, c, api.State{Kind: 4, Elem: "/" + long[1:] + small(octet(c))}, api.OK)
		if c != '=' {
			steps(t, api.State{Kind: 6, Elem: long, Attr: long}, c, api.State{}, api.ErrLong)
			steps(t, api.State{Kind: 6, Elem: "/p", Attr: "/" + long[1:]}, c, api.State{}, api.ErrLong)
			steps(t, api.State{Kind: 6, Elem: long, Attr: long[1:]}, c, api.State{Kind: 6, Elem: long, Attr: long[1:] + small(octet(c))}, api.OK)
		}
	}
	leads(t, api.State{Kind: 6, Elem: "/" + long, Attr: long}, "= \"x\" y", api.State{Kind: 6, Elem: "/" + long, Attr: "y"})
}

func TestTagsThatEnd(t *testing.T) { // P17.1
	behind := map[string]api.State{"": {}, "p": {}, "br": {}, "TITLE": {}, "titles": {}, "titl": {}, "xiframe": {}, "plain": {}, "listing": {}, "noscripts": {},
		"title": {Kind: 17, Elem: "title"}, "textarea": {Kind: 17, Elem: "textarea"}, "style": {Kind: 18, Elem: "style"}, "script": {Kind: 19, Elem: "script"}}
	for _, name := range []string{"plaintext", "xmp", "iframe", "noembed", "noframes", "noscript"} {
		behind[name] = api.State{Kind: -1}
	}
	for name, want := range behind {
		for _, s := range []api.State{{Kind: 3}, {Kind: 5}, {Kind: 6, Attr: "a"}, {Kind: 7, Attr: "a"}, {Kind: 8, Attr: "href"}, {Kind: 10, Attr: "a"}, {Kind: 10, Attr: "href", Ref: "&am"}, {Kind: 11}, {Kind: 12}} {
			s.Elem = name
			if want.Kind < 0 {
				steps(t, s, '>', api.State{}, api.ErrContext)
				refuses(t, s, ">", 0, api.ErrContext)
				refuses(t, s, " />", 2, api.ErrContext)
			} else {
				steps(t, s, '>', want, api.OK)
				leads(t, s, " />", want)
				leads(t, s, "\n>", want)
			}
			s.Elem = "/" + name // all end tags lead to data
			steps(t, s, '>', api.State{}, api.OK)
			leads(t, s, " />", api.State{})
		}
		steps(t, api.State{Kind: 4, Elem: "/" + name}, '>', api.State{}, api.OK)
	}
	for s, place := range map[string]int{"<iframe>": 7, "<IFRAME>": 7, "<noscript/>": 10, "a<xmp a=b>": 9, "<xmp a='>'>": 10, "<plaintext ></plaintext>": 11, "<noembed a>": 10, "<noframes a=\"b\" / >": 18, "<xmp a=>": 7} {
		refuses(t, api.State{}, s, place, api.ErrContext)
	}
	leads(t, api.State{}, "<iframe src='x'", api.State{Kind: 11, Elem: "iframe"})
	leads(t, api.State{}, "</iframe></noscript x=y></xmp/>", api.State{})
	leads(t, api.State{}, "<TiTle>", st("17|title||0|||0|"))
	leads(t, api.State{}, "<textarea a=b/>", st("17|textarea||0|||0|"))
	leads(t, api.State{}, "<STYLE type=x/ >", st("18|style||0|||0|"))
	leads(t, api.State{}, "<script async/>", st("19|script||0|||0|"))
	leads(t, api.State{}, "<title/></title>", api.State{})
}

func TestAttributes(t *testing.T) { // P17.1
	for s, want := range map[string]string{
		"<p a": "6|p|a|0|||0|", "<p A b": "6|p|b|0|||0|", "<p a b=c d": "6|p|d|0|||0|", "<p a=b c": "6|p|c|0|||0|", "<p a='b'c": "6|p|c|0|||0|", "<p a=\"b\"c=\"d\"": "11|p||0|||0|", "<p/a": "6|p|a|0|||0|", "<p/a/b": "6|p|b|0|||0|", "<p//": "12|p||0|||0|", "<p/ /": "12|p||0|||0|",
		"<p a/": "12|p||0|||0|", "<p a=b/": "10|p|a|0|||0|", "<p a=b /": "12|p||0|||0|", "<p a='b'/": "12|p||0|||0|", "<p =": "6|p|%3d|0|||0|", "<p ==": "8|p|%3d|0|||0|", "<p a==": "10|p|a|0|||0|", "<p a==b": "10|p|a|0|||0|", "<p a= =": "10|p|a|0|||0|", "<p a =": "8|p|a|0|||0|", "<p a = ": "8|p|a|0|||0|", "<p a\n=\t'": "9|p|a|39|||0|", "<p a \f": "7|p|a|0|||0|",
		"<p \"": "6|p|%22|0|||0|", "<p a\"='": "9|p|a%22|39|||0|", "<p '<": "6|p|%27%3c|0|||0|", "<p <a": "6|p|%3ca|0|||0|", "<p<a": "3|p%3ca||0|||0|", "<p=a": "3|p%3da||0|||0|", "<p a=b'\"<=`": "10|p|a|0|||0|", "<p a='\"": "9|p|a|39|||0|", "<p a=\"'>": "9|p|a|34|||0|", "<p a='x>y</p>": "9|p|a|39|||0|", "<p a=''": "11|p||0|||0|", "<p a= >": "0|||0|||0|", "<p a>": "0|||0|||0|", "<p a='b'>": "0|||0|||0|", "<p a=b>": "0|||0|||0|",
		"</p a": "6|%2fp|a|0|||0|", "</p HREF='": "9|%2fp|href|39|||0|", "</P onclick=": "8|%2fp|onclick|0|||0|", "</p a=b": "10|%2fp|a|0|||0|", "</p a='b'": "11|%2fp||0|||0|", "</p/": "12|%2fp||0|||0|", "</p a='b'/>": "0|||0|||0|", "</p/p": "6|%2fp|p|0|||0|",
		"<é": "0|||0|||0|", "<1": "0|||0|||0|", "<<": "1|||0|||0|", "<<p": "3|p||0|||0|", "< p": "0|||0|||0|", "<_": "0|||0|||0|", "<p\x00": "3|p%01||0|||0|", "</>": "0|||0|||0|", "</ >": "0|||0|||0|", "</ ": "15|||0|||0|", "</1>": "0|||0|||0|", "<?>": "0|||0|||0|", "<?a'>'": "0|||0|||0|", "<!>": "0|||0|||0|", "<!->": "0|||0|||0|", "<!-a": "15|||0|||0|", "<!a--": "15|||0|||0|", "<!DOCTYPE html>": "0|||0|||0|",
		"<!--": "16|||0|||0|", "<!-->": "16|||0|||0|", "<!--->": "16|||0|||0|", "<!---->": "0|||0|||0|", "<!----": "16|||0|--||0|", "<!-----": "16|||0|--||0|", "<!----->": "0|||0|||0|", "<!--a-b": "16|||0|||0|", "<!--a--b": "16|||0|||0|", "<!--a-->": "0|||0|||0|", "<!--a--!>": "16|||0|||0|", "<!--->-": "16|||0|-||0|", "<!--<!---->": "0|||0|||0|", "<!--&amp": "16|||0|||0|", "<!--a- -": "16|||0|-||0|", "<?&": "15|||0|||0|",
	} {
		want := st(strings.ReplaceAll(want, "%01", "a"))
		if strings.Contains(s, "\x00") {
			want.Elem = "p\x00"
		}
		leads(t, api.State{}, s, want)
		leads(t, api.State{}, "x<p y=z>"+s, want)
	}
}

func TestStatesThatMayNotBe(t *testing.T) { // P17.1, P17.2, P17.3, P4
	refused := 0
	for kind := -2; kind < 22; kind++ {
		for _, s := range odd(kind) {
			err := marks.Check(s)
			if err == api.OK {
				continue
			}
			refused++
			for _, c := range []byte("a<>&/\"'- =!;") {
				steps(t, s, c, api.State{}, err)
			}
			for _, text := range []string{"", "a", "<p>", "</title>", "\">", "a\\", "`", "<iframe>", ":", strings.Repeat("a", 100)} {
				refuses(t, s, text, 0, err)
			}
			if to, esc, got := Hole(s); to != (api.State{}) || esc != 0 || got != err {
				t.Errorf("P17.3: Hole(%+v) is %+v, %d, %d, not %d", s, to, esc, got, err)
			}
		}
	}
	if refused < 150 {
		t.Errorf("just %d states may not be", refused)
	}
	for _, kind := range []int{-1 << 63, -1 << 32, 1 << 32, 1<<32 + 9, 1<<63 - 1, 256, 100} {
		steps(t, api.State{Kind: kind}, 'a', api.State{}, api.ErrRange)
		refuses(t, api.State{Kind: kind}, "", 0, api.ErrRange)
		if Ends(api.State{Kind: kind}) {
			t.Errorf("P17.2: kind %d is data", kind)
		}
	}
}

// odd are states of that kind that have, one at a time, what they may not have, and others.
func odd(kind int) []api.State {
	long := strings.Repeat("a", 33)
	bare := api.State{Kind: kind}
	if kind == 9 {
		bare.Delim = '\''
	}
	out := []api.State{bare}
	for _, with := range []func(s *api.State){
		func(s *api.State) { s.Elem = "a" },
		func(s *api.State) { s.Elem = long + "a" },
		func(s *api.State) { s.Attr = "a" },
		func(s *api.State) { s.Attr = "href" },
		func(s *api.State) { s.Attr = long },
		func(s *api.State) { s.Delim = '"' },
		func(s *api.State) { s.Delim = '`' },
		func(s *api.State) { s.Delim = 0 },
		func(s *api.State) { s.Pend = "<" },
		func(s *api.State) { s.Pend = long + "aa" },
		func(s *api.State) { s.Ref = "&" },
		func(s *api.State) { s.Ref = long[:17] },
		func(s *api.State) { s.Part = 1 },
		func(s *api.State) { s.Part = 16 },
		func(s *api.State) { s.Part = -1 },
		func(s *api.State) { s.Word = "a" },
		func(s *api.State) { s.Word = long[:17] },
	} {
		one := bare
		with(&one)
		two := one
		two.Attr = "style"
		three := one
		three.Elem = "/a"
		out = append(out, one, two, three)
	}
	return out
}

func TestEnds(t *testing.T) { // P17.2
	for kind := -2; kind < 22; kind++ {
		for _, s := range odd(kind) {
			if got, want := Ends(s), kind == 0 && s.Ref == ""; got != want {
				t.Errorf("P17.2: Ends(%+v) is %t", s, got)
			}
		}
	}
	for text, want := range map[string]bool{"": true, "a": true, "&": false, "&amp": false, "&amp;": true, "&x": true, "&#": false, "&#12345678": true, "<": false, "<a": false, "<a>": true, "<a b='": false, "<1": true, "</": false, "</>": true, "<!": false, "<!--": false, "<!---->": true, "<?": false, "<title>": false, "<title></title>": true, "<script></script": false, "<script></script>": true, "<style>a": false} {
		s, _, err := Feed(api.State{}, text)
		if err != api.OK || Ends(s) != want {
			t.Errorf("P17.2: %q: %+v, %d, Ends %t", text, s, err, Ends(s))
		}
	}
}
