package scan

import (
	"strings"
	"testing"

	"muslin/api"
	"muslin/marks"
	"muslin/tokens"
)

// answers holds of Feed what every answer has: a state that may be, or an error and its place.
func answers(t *testing.T, s api.State, text string) {
	t.Helper()
	got, at, err := Feed(s, text)
	if err == api.OK && (marks.Check(got) != api.OK || at != len(text)) || err != api.OK && (got != (api.State{}) || at < 0 || at >= max(len(text), 1)) {
		t.Errorf("P17.2: Feed(%+v, %.80q) is %+v, %d, %d", s, text, got, at, err)
	}
}

// asShould holds Feed from the beginning on against the second reading.
func asShould(t *testing.T, text string) {
	t.Helper()
	want, place, wantErr := stood(text)
	if got, at, err := Feed(api.State{}, text); got != want || at != place || err != wantErr {
		t.Errorf("P17.2: Feed of %.200q is %+v, %d, %d, not %+v, %d, %d", text, got, at, err, want, place, wantErr)
	}
}

// inEachState are texts at whose end each kind of state stands, with and without what may be on its way.
func inEachState() []string {
	return []string{
		"", "x", "&", "x&am", "&#x4", "<", "x<", "</", "<a", "<aB", "</a", "</Ab", "<a ", "</a ", "<a b", "<a B", "</a b", "<a b ", "<a b=", "</a b= ", "<a b=\"", "<a b='c", "<a b='&l", "</a href='", "<a href=\"", "<a href='ht", "<a href=\"http:/", "<a href='?", "<a href='x:", "<p on='", "<p on=\"f('", "<p on='\"\\", "<p on='/[", "<p on='/*", "<p style=\"", "<p style='ur", "<p style='url(", "<p style=\"'", "<p style='/*",
		"<a b=c", "<a b=&g", "<a href=h", "<p on=x", "<p style=a:", "</a href=c", "<a b='c'", "</a b=''", "<a/", "</a/", "<a b=c /", "<!", "<!-", "<!a", "<?", "</ ", "<!--", "<!---", "<!--a--",
		"<title>", "<title>&", "<title><", "<title></ti", "<title></TITLE", "<textarea>x", "<textarea></textare", "<style>", "<style>ur", "<style>url(", "<style>'", "<style>/*", "<style></st", "<style>\"</style",
		"<script>", "<script>x", "<script>x=\"", "<script>'\\", "<script>//", "<script>/*", "<script>/", "<script>/[", "<script><!", "<script><!-", "<script>'</", "<script></SCRIPT", "<script>retur", "</script", "<iframe", "<iframe a=b", "</iframe",
	}
}

func smallPieces() []string {
	return []string{"<", ">", "/", "!", "-", "a", "P", " ", "=", "\"", "'", "&", "lt", ";", "#6", "\n", "\\", "`", "?", ":"}
}

func greatPieces() []string {
	return []string{"<p", "<a href=", "<p on=", "<p style='", " onclick=\"", "<title>", "</title", "</TITLE>", "<script>", "</script", "</SCRIPT>", "<style>", "</style>", "<iframe>", "<textarea", "<!--", "-->", "&amp;", "&#x22;", "url(", "return", "/*", "*/", "//", "x", ">", "\"", "'", "\n", " ", "/", "<", "é"}
}

func TestFeedOfSmallTexts(t *testing.T) { // P17.1, P17.2
	for s := range smallTexts(smallPieces(), 4) {
		asShould(t, s)
	}
	for s := range smallTexts(greatPieces(), 3) {
		asShould(t, s)
	}
	for _, ahead := range inEachState() {
		for s := range smallTexts(smallPieces(), 3) {
			asShould(t, ahead+s)
		}
		for s := range smallTexts(greatPieces(), 2) {
			asShould(t, ahead+s)
		}
		for _, c := range []byte(every()) {
			asShould(t, ahead+octet(c))
			asShould(t, ahead+"x"+octet(c)+">")
			asShould(t, ahead+octet(c)+"\">")
		}
	}
}

// pages are whole texts of HTML.
func pages() []string {
	return []string{
		"<!DOCTYPE html><html lang=en><head><title>a &amp; b</title><style>p{a:b}</style><script>if (a<b) f('</p>')</script></head><body class=\"x y\" hidden><p id='1'>one<br/>two &lt; three</p><!-- end --><textarea rows=2>\n<p>&quot;</textarea></body></html>",
		"<form action=\"/go?x=1\" onsubmit='return f(\"a\", /[\"]/.test(x))'><input value=&quot;a&quot; disabled><img src=x.png alt=''><a href=mailto:x@y>z</a ></form>\n",
		"<style>a{background:url(\"x.png\")} /* </b> */ b:after{content:'<'}</style><p style=\"color:red; width: 1px\">é€😀</p><script type=module>/* <p> */ var a = '<' + '/script', b = a / 2; // x\nf(a</b/.test(c))</script>",
		strings.Repeat("<p class='a'>b &amp; c</p><!---->", 100),
	}
}

func TestFeedOfPages(t *testing.T) { // P17.2
	for _, page := range pages() {
		leads(t, api.State{}, page, api.State{})
		for i := range len(page) + 1 {
			if len(page) < 1000 || i%97 == 0 {
				asShould(t, page[:i])
				asShould(t, page[i:])
			}
		}
		for more, err := range map[string]api.Errno{"<script>`": api.ErrScript, "<iframe>": api.ErrContext, "<p on='`": api.ErrScript, "<p style=\\": api.ErrStyle, "<script>a<!--": api.ErrScript, "<p " + strings.Repeat("a", 33): api.ErrLong, "</p" + strings.Repeat("a", 32): api.ErrLong} {
			last := len(more) - 1
			refuses(t, api.State{}, page+more, len(page)+last, err)
			refuses(t, api.State{}, page+more+page, len(page)+last, err) // the first error counts
			refuses(t, api.State{}, more, last, err)
			refuses(t, st("16|||0|--||0|"), ">"+page+more, 1+len(page)+last, err)
			leads(t, api.State{}, page+more[:last], after(t, more[:last]))
		}
	}
	refuses(t, api.State{Kind: 12, Elem: "xmp"}, "></xmp>", 0, api.ErrContext)
	refuses(t, api.State{Kind: 12, Elem: "xmp"}, "/></xmp>", 1, api.ErrContext)
}

// after is where a text leads to from the beginning.
func after(t *testing.T, text string) api.State {
	t.Helper()
	s, _, err := Feed(api.State{}, text)
	if err != api.OK {
		t.Fatalf("Feed of %q is %d", text, err)
	}
	return s
}

func TestFeedOfNone(t *testing.T) { // P17.2
	for _, ahead := range inEachState() {
		s := after(t, ahead)
		leads(t, s, "", s)
		if s == (api.State{}) && ahead != "" && ahead != "x" {
			t.Errorf("%q leads to data", ahead)
		}
	}
	kinds := map[int]bool{}
	for _, ahead := range inEachState() {
		kinds[after(t, ahead).Kind] = true
	}
	if len(kinds) != 20 {
		t.Errorf("just %d kinds of states", len(kinds))
	}
}

func TestFeedIsStepOfEachOctet(t *testing.T) { // P17.2
	for _, ahead := range inEachState() {
		from := after(t, ahead)
		for s := range smallTexts(greatPieces(), 2) {
			want, err, place := from, api.OK, 0
			for place < len(s) && err == api.OK {
				want, err = Step(want, s[place])
				place++
			}
			if err != api.OK {
				refuses(t, from, s, place-1, err)
			} else {
				leads(t, from, s, want)
			}
			answers(t, from, s)
		}
	}
}

func TestFeedOfTwoTextsIsOfBoth(t *testing.T) { // P17.4
	texts := pages()
	for _, ahead := range inEachState() {
		for _, more := range []string{"</title></textarea></style></script>", "a\"b'c>d", "&amp;<p on='&#34;", "`<!--\\\n"} {
			texts = append(texts, ahead+more)
		}
	}
	for _, text := range texts {
		want, wantAt, wantErr := Feed(api.State{}, text)
		for i := range len(text) + 1 {
			one, at, err := Feed(api.State{}, text[:i])
			if err == api.OK {
				if at != i {
					t.Fatalf("P17.2: Feed of %q goes to %d", text[:i], at)
				}
				if one, at, err = Feed(one, text[i:]); at+i != wantAt {
					t.Errorf("P17.4: %.99q, from %d on, goes to %d, not %d", text, i, at+i, wantAt)
				}
			} else if at != wantAt {
				t.Errorf("P17.4: %.99q, up to %d, goes to %d, not %d", text, i, at, wantAt)
			}
			if one != want || err != wantErr {
				t.Errorf("P17.4: %.99q in two, at %d, is %+v, %d, not %+v, %d", text, i, one, err, want, wantErr)
			}
		}
	}
}

// joinedTokens are l, but that texts which stand one behind the other are one.
func joinedTokens(l []api.Token) []api.Token {
	var out []api.Token
	for _, k := range l {
		if last := len(out) - 1; k.Kind == 3 && last >= 0 && out[last].Kind == 3 {
			out[last].Text += k.Text
		} else {
			out = append(out, k)
		}
	}
	return out
}

func TestTokensOfTwoTextsAreThoseOfBoth(t *testing.T) { // P17.5
	tried := 0
	both := func(one string, two string) {
		s, _, err := Feed(api.State{}, one)
		if err != api.OK || !Ends(s) {
			return
		}
		tried++
		ahead, _ := tokens.Tokens(one)
		behind, _ := tokens.Tokens(two)
		all, _ := tokens.Tokens(one + two)
		got, want := joinedTokens(append(ahead, behind...)), joinedTokens(all)
		same := len(got) == len(want)
		for i := range min(len(got), len(want)) {
			same = same && tokens.Same(got[i], want[i])
		}
		if !same {
			t.Errorf("P17.5: %q and %q are told %+v, both %+v", one, two, got, want)
		}
	}
	for one := range smallTexts(smallPieces(), 3) {
		for _, two := range []string{"", "a", "amp;", ";", ">", "<p>", "\">b", "-->c", "/p>", "'", "!--d", "</title>"} {
			both(one, two)
		}
	}
	for one := range smallTexts(greatPieces(), 3) {
		both(one, "b>\"c'-->d</title>e</script>f")
		both(one, ";<p>")
	}
	for _, page := range pages() {
		for i := range len(page) {
			both(page[:i], page[i:])
		}
	}
	if tried < 10000 {
		t.Errorf("just %d texts end in data", tried)
	}
}

func TestWhatDoesNotEndIsNotWhole(t *testing.T) { // P17.5: nothing of a tag, remark or element that is on its way is told as it will be
	for _, c := range []struct{ one, two string }{{"<p", ">"}, {"a&am", "p;"}, {"<!--a", "b-->"}, {"<title>a", "</title>"}, {"<p a='b", "c'>"}, {"<script>a", "b</script>"}, {"</p", ">"}, {"<", "p>"}} {
		if Ends(after(t, c.one)) {
			t.Errorf("P17.2: %q ends in data", c.one)
		}
	}
}
