package scan

import (
	"strings"
	"testing"

	"muslin/api"
	"muslin/cssscan"
	"muslin/jsscan"
)

// elementStates are where elements' texts begin.
func elementStates() []api.State {
	return []api.State{{Kind: 17, Elem: "title"}, {Kind: 17, Elem: "textarea"}, {Kind: 18, Elem: "style"}, {Kind: 19, Elem: "script"}}
}

// throughElement is where s leads to by octets that stand in no end tag.
func throughElement(s api.State, text string) (api.State, api.Errno) {
	switch s.Kind {
	case 18:
		if s.Part, s.Word = cssscan.Feed(s.Part, s.Word, text); s.Part == 9 {
			return api.State{}, api.ErrStyle
		}
	case 19:
		if s.Part, s.Word = jsscan.Feed(s.Part, s.Word, text); s.Part == 15 {
			return api.State{}, api.ErrScript
		}
	}
	return s, api.OK
}

func TestOctetsOfElements(t *testing.T) { // P17.1
	for _, of := range elementStates() {
		for part := range 16 {
			for _, word := range []string{"", "url", "return", "?", long16} {
				s := inPart(of, part, word)
				for _, c := range []byte(but("<&")) {
					want, err := throughElement(s, octet(c))
					steps(t, s, c, want, err)
				}
				want := s
				want.Pend = "<"
				steps(t, s, '<', want, api.OK)
				want, err := throughElement(s, "&")
				if s.Kind == 17 {
					want.Ref = "&"
				}
				steps(t, s, '&', want, err)
			}
		}
	}
}

// cases are s in small letters, in great ones and in both.
func cases(s string) []string {
	mixed := ""
	for i := range len(s) {
		mixed += []string{s[i : i+1], strings.ToUpper(s[i : i+1])}[i%2]
	}
	return []string{s, strings.ToUpper(s), mixed}
}

func TestEndTagsOfElements(t *testing.T) { // P17.1
	for _, of := range elementStates() {
		for part := range 16 {
			s := inPart(of, part, "")
			for _, whole := range cases("</" + s.Elem) {
				for size := 1; size <= len(whole); size++ {
					want := s
					want.Pend = whole[:size]
					leads(t, s, whole[:size], want)
				}
				in := api.State{Kind: 5, Elem: "/" + s.Elem}
				for _, c := range []byte(blanks) {
					leads(t, s, whole+octet(c), in)
				}
				leads(t, s, whole+">", api.State{})
				leads(t, s, whole+" >", api.State{})
				in.Kind = 12
				leads(t, s, whole+"/", in)
				leads(t, s, whole+"/>", api.State{})
				leads(t, s, whole+" a='>'>", api.State{})
				leads(t, s, whole+" a", api.State{Kind: 6, Elem: "/" + s.Elem, Attr: "a"})
			}
		}
	}
}

func TestWhatIsNoEndTag(t *testing.T) { // P17.1
	for _, of := range elementStates() {
		for part := range 16 {
			s := inPart(of, part, "ur")
			for _, whole := range cases("</" + s.Elem) {
				for size := 1; size <= len(whole); size++ {
					on := s
					on.Pend = whole[:size]
					behind, err := throughElement(s, on.Pend)
					for _, c := range []byte(every()) {
						switch {
						case size < len(whole) && strings.EqualFold(octet(c), whole[size:size+1]),
							size == len(whole) && strings.IndexByte(blanks+"/>", c) >= 0,
							s.Kind == 19 && size == 1 && c == '!':
						case err != api.OK:
							steps(t, on, c, api.State{}, err)
						default:
							want, err := Step(behind, c)
							steps(t, on, c, want, err)
						}
					}
				}
			}
		}
	}
}

func TestTextsOfElements(t *testing.T) { // P17.1
	for text, want := range map[string]string{
		"<title><": "17|title||0|%3c||0|", "<title><<": "17|title||0|%3c||0|", "<title><</": "17|title||0|%3c%2f||0|", "<title></<": "17|title||0|%3c||0|", "<title></t</ti": "17|title||0|%3c%2fti||0|", "<title></TI": "17|title||0|%3c%2fTI||0|", "<title></titles": "17|title||0|||0|", "<title></titles>": "17|title||0|||0|", "<title></title": "17|title||0|%3c%2ftitle||0|", "<title></title<": "17|title||0|%3c||0|", "<title></title=": "17|title||0|||0|", "<title></textarea>": "17|title||0|||0|", "<title><p>": "17|title||0|||0|", "<title><!--": "17|title||0|||0|", "<title><!": "17|title||0|||0|", "<title></title\v": "17|title||0|||0|", "<title></title&": "17|title||0||%26|0|", "<title></&a": "17|title||0||%26a|0|", "<title>&amp;</": "17|title||0|%3c%2f||0|", "<title>&am</tx": "17|title||0|||0|", "<title>&lt;/title>": "17|title||0|||0|",
		"<style>a{b:u": "18|style||0|||0|u", "<style>a{b:u</": "18|style||0|%3c%2f||0|u", "<style>a{b:u</r": "18|style||0|||0|r", "<style>u</rl(": "18|style||0|||0|", "<style>url(</": "18|style||0|%3c%2f||8|", "<style>url(</x": "18|style||0|||8|", "<style>\"</styl": "18|style||0|%3c%2fstyl||1|", "<style>\"</styl\"": "18|style||0|||0|", "<style></": "18|style||0|%3c%2f||0|", "<style></*": "18|style||0|||6|", "<style></s*": "18|style||0|||0|", "<style>/<": "18|style||0|%3c||5|", "<style>/<*": "18|style||0|||0|", "<style>/*</style": "18|style||0|%3c%2fstyle||6|", "<style>/*</style>": "0|||0|||0|", "<style>/**</": "18|style||0|%3c%2f||7|", "<style>/**</x": "18|style||0|||6|", "<style><!": "18|style||0|||0|", "<style><!--": "18|style||0|||0|--", "<style>&quot;": "18|style||0|||0|", "<style></stylex": "18|style||0|||0|stylex", "<style></STYLEX": "18|style||0|||0|stylex", "<style></script>": "18|style||0|||0|", "<style><a": "18|style||0|||0|a", "<style>'</style>": "0|||0|||0|", "<style></style><style>": "18|style||0|||0|",
		"<script>x": "19|script||0|||1|x", "<script>x<": "19|script||0|%3c||1|x", "<script>x<y": "19|script||0|||1|y", "<script>x<!": "19|script||0|%3c%21||1|x", "<script>x<!-": "19|script||0|%3c%21-||1|x", "<script>x<!y": "19|script||0|||1|y", "<script>x<!-y": "19|script||0|||1|y", "<script><!-<!": "19|script||0|%3c%21||0|", "<script><!</": "19|script||0|%3c%2f||0|", "<script></!--": "19|script||0|||9|", "<script>< !--": "19|script||0|||0|", "<script><! --": "19|script||0|||0|", "<script><!- -": "19|script||0|||0|", "<script>!--": "19|script||0|||0|", "<script>-->": "19|script||0|||0|", "<script><\"": "19|script||0|||2|", "<script></\"": "19|script||0|||9|", "<script>x</\"": "19|script||0|||9|", "<script></": "19|script||0|%3c%2f||0|", "<script><//": "19|script||0|||6|", "<script></*": "19|script||0|||7|", "<script></s*": "19|script||0|||9|", "<script></s/": "19|script||0|||1|", "<script>x<'": "19|script||0|||3|", "<script>x</'": "19|script||0|||9|", "<script>/* *<": "19|script||0|%3c||8|", "<script>/* *</": "19|script||0|%3c%2f||8|", "<script>/* *</x": "19|script||0|||7|", "<script>/* *<*/": "19|script||0|||0|", "<script>/<": "19|script||0|%3c||13|", "<script>/<*": "19|script||0|||9|", "<script>\"</script": "19|script||0|%3c%2fscript||2|", "<script>\"</script\"": "19|script||0|||1|", "<script>\"</script>": "0|||0|||0|", "<script>\"<\\/script>": "19|script||0|||2|", "<script>\"\\<": "19|script||0|%3c||4|", "<script>\"\\</": "19|script||0|%3c%2f||4|", "<script>\"\\</x": "19|script||0|||2|", "<script>\"\\<\"": "19|script||0|||1|",
		"<script>//</script\n": "5|%2fscript||0|||0|", "<script>/[</script/": "12|%2fscript||0|||0|", "<script>return</scrip": "19|script||0|%3c%2fscrip||1|return", "<script></SCRIP": "19|script||0|%3c%2fSCRIP||0|", "<script>\"&quot;": "19|script||0|||2|", "<script></SCRx": "19|script||0|||9|", "<script>'</SCRx": "19|script||0|||3|", "<script>x<Scr": "19|script||0|||1|Scr", "<script>1</style>": "19|script||0|||9|", "<script>a</script>b": "0|||0|||0|", "<script>a</script x=`>": "0|||0|||0|", "<SCRIPT>a</script ": "5|%2fscript||0|||0|", "<script><script>": "19|script||0|||0|", "<script></script</script": "19|script||0|%3c%2fscript||9|", "<script>\"</script</script>": "0|||0|||0|",
	} {
		leads(t, api.State{}, text, st(want))
	}
}

func TestWhatElementsMayNotHave(t *testing.T) { // P17.1
	for text, want := range map[string]struct {
		place int
		err   api.Errno
	}{
		"<script><!--": {11, api.ErrScript}, "<script>a<!--b": {12, api.ErrScript}, "<script>\"<!--\"": {12, api.ErrScript}, "<script>//<!--": {13, api.ErrScript}, "<script><<!--": {12, api.ErrScript}, "<script><!<!--": {13, api.ErrScript}, "<script><!-<!--": {14, api.ErrScript}, "<script></<!--": {13, api.ErrScript}, "<script></script<!--": {19, api.ErrScript}, "<script></script><script><!--": {28, api.ErrScript},
		"<script>`": {8, api.ErrScript}, "<script>\"\n": {9, api.ErrScript}, "<script>'\r": {9, api.ErrScript}, "<script>\"<\n": {10, api.ErrScript}, "<script>\"</scri\n": {15, api.ErrScript}, "<script>/a\n": {10, api.ErrScript}, "<script>/[</\r": {12, api.ErrScript}, "<script>'</script.\n": {18, api.ErrScript}, "<script></`\n": {11, api.ErrScript}, "<script><`": {9, api.ErrScript},
		"<style>\\": {7, api.ErrStyle}, "<style>a\\b": {8, api.ErrStyle}, "<style>\"\n": {8, api.ErrStyle}, "<style>'\r": {8, api.ErrStyle}, "<style><\\": {8, api.ErrStyle}, "<style></sty\\": {12, api.ErrStyle}, "<style></style\\": {14, api.ErrStyle}, "<style>\"</style\n": {7, api.OK}, "<style>'</style\v\n": {16, api.ErrStyle},
	} {
		if want.err == api.OK {
			leads(t, api.State{}, text, st("5|%2fstyle||0|||0|"))
			continue
		}
		refuses(t, api.State{}, text, want.place, want.err)
		refuses(t, api.State{}, text+"</script></style><iframe>", want.place, want.err)
	}
	for part := range 15 {
		s := api.State{Kind: 19, Elem: "script", Part: part}
		for _, place := range []int{0, 1, 2, 3} {
			s.Pend = "<!--"[:place]
			refuses(t, s, "<!--"[place:], 3-place, api.ErrScript)
		}
	}
	for _, s := range []api.State{{Kind: 18, Elem: "style", Part: 8}, {Kind: 17, Elem: "title"}, {Kind: 9, Elem: "p", Attr: "on", Delim: '"', Part: 6}} {
		leads(t, s, "a<!--b", s)
	}
}

func TestElementsHandedIn(t *testing.T) { // P17.1: with names that no octets make
	leads(t, api.State{Kind: 19, Elem: "x"}, "</X>", api.State{})
	leads(t, api.State{Kind: 18, Elem: "X"}, "</x ", api.State{Kind: 5, Elem: "/X"})
	leads(t, api.State{Kind: 17}, "</", api.State{Kind: 17, Pend: "</"})
	leads(t, api.State{Kind: 17}, "</>", api.State{})
	leads(t, api.State{Kind: 17}, "</x", api.State{Kind: 17})
	leads(t, api.State{Kind: 17, Elem: "/p"}, "<//p>", api.State{})
	long := strings.Repeat("a", 32)
	leads(t, api.State{Kind: 18, Elem: long}, "</"+long, api.State{Kind: 18, Elem: long, Pend: "</" + long})
	leads(t, api.State{Kind: 18, Elem: long}, "</"+long+"\n", api.State{Kind: 5, Elem: "/" + long})
	refuses(t, api.State{Kind: 18, Elem: long + "a"}, "</"+long+"a", 34, api.ErrLong) // an end tag's name, too
	for kind := 16; kind < 20; kind++ {
		for _, pend := range []string{"x", "<x", "</x", ">", "-", "--", "---", "<!--", "<!--x", "</script>", "</title ", strings.Repeat("<", 34), strings.Repeat("-", 34), "\xff"} {
			for _, elem := range []string{"", "title", long} {
				s := api.State{Kind: kind, Elem: elem, Pend: pend}
				if kind == 16 {
					s.Elem = ""
				}
				for _, c := range []byte(every()) {
					answers(t, s, octet(c)) // what it is, is not told
				}
			}
		}
	}
}
