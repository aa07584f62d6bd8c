package lex

import (
	"slices"
	"strconv"
	"strings"
	"testing"

	"muslin/api"
	"muslin/number"
	"muslin/octets"
)

func TestWordsOfActions(t *testing.T) { // P18.2
	has(t, "")
	has(t, "range .a", Word{1, "range", 0}, Word{2, ".a", 6})
	has(t, `if eq .a.b "x" | not`, Word{1, "if", 0}, Word{1, "eq", 3}, Word{2, ".a.b", 6}, Word{5, "x", 11}, Word{6, "|", 15}, Word{1, "not", 17})
	has(t, "$x := .y", Word{3, "$x", 0}, Word{6, ":=", 3}, Word{2, ".y", 6})
	has(t, "$x:=.y|len", Word{3, "$x", 0}, Word{6, ":=", 2}, Word{2, ".y", 4}, Word{6, "|", 6}, Word{1, "len", 7})
	has(t, `index $x.y -1"a".b`, Word{1, "index", 0}, Word{3, "$x.y", 6}, Word{4, "-1", 11}, Word{5, "a", 13}, Word{2, ".b", 16})
	has(t, "template \"a\" .", Word{1, "template", 0}, Word{5, "a", 9}, Word{2, ".", 13})
}

func TestBlanksBetweenWords(t *testing.T) { // P18.2
	for _, blank := range []string{" ", "\t", "\n", "\f", "\r", blanks, blanks + blanks} {
		n := len(blank)
		has(t, blank)
		has(t, blank+"a", Word{1, "a", n})
		has(t, "a"+blank, Word{1, "a", 0})
		has(t, "a"+blank+"b", Word{1, "a", 0}, Word{1, "b", n + 1})
		has(t, "."+blank+"a", Word{2, ".", 0}, Word{1, "a", n + 1})
		has(t, "$"+blank+"a", Word{3, "$", 0}, Word{1, "a", n + 1})
		has(t, "$a"+blank+".b", Word{3, "$a", 0}, Word{2, ".b", n + 2})
		has(t, "$"+blank+".b", Word{3, "$", 0}, Word{2, ".b", n + 1})
		has(t, ".a"+blank+".b", Word{2, ".a", 0}, Word{2, ".b", n + 2})
		has(t, ".a"+blank+".", Word{2, ".a", 0}, Word{2, ".", n + 2})
		has(t, "1"+blank+"2", Word{4, "1", 0}, Word{4, "2", n + 1})
		has(t, `"a"`+blank+`"b"`, Word{5, "a", 0}, Word{5, "b", n + 3})
		has(t, "|"+blank+"|"+blank+":="+blank, Word{6, "|", 0}, Word{6, "|", n + 1}, Word{6, ":=", 2*n + 2})
		hasNot(t, blank+"-"+blank+"1", n, api.ErrSyntax)
		hasNot(t, blank+":"+blank+"=", n, api.ErrSyntax)
		hasNot(t, ".a."+blank+"b", 0, api.ErrSyntax)
		hasNot(t, "$."+blank+"b", 0, api.ErrSyntax)
		if !strings.Contains(blank, "\n") {
			has(t, `"`+blank+`"`, Word{5, blank, 0})
		}
	}
	for _, other := range []string{"\v", "\x00", "\u00a0", "\u0085", "\x1c", "\u2003", "\x1f", "\x08"} {
		hasNot(t, "a"+other+"b", 1, api.ErrSyntax)
	}
}

func TestNames(t *testing.T) { // P18.2
	for _, name := range []string{"a", "Z", "_", "a1", "_1", "__", "aZ09_", "if", "true", "nil", "A_b_9"} {
		n := len(name)
		has(t, name, Word{1, name, 0})
		has(t, "."+name, Word{2, "." + name, 0})
		has(t, "."+name+"."+name, Word{2, "." + name + "." + name, 0})
		has(t, "$"+name, Word{3, "$" + name, 0})
		has(t, "$."+name, Word{3, "$." + name, 0})
		has(t, "$"+name+"."+name+"."+name, Word{3, "$" + name + "." + name + "." + name, 0})
		has(t, name+"."+name, Word{1, name, 0}, Word{2, "." + name, n})
		has(t, name+"$"+name, Word{1, name, 0}, Word{3, "$" + name, n})
		has(t, "."+name+"$"+name, Word{2, "." + name, 0}, Word{3, "$" + name, n + 1})
		has(t, "$"+name+"$"+name, Word{3, "$" + name, 0}, Word{3, "$" + name, n + 1})
		has(t, name+"-7"+name, Word{1, name, 0}, Word{4, "-7", n}, Word{1, name, n + 2})
		has(t, "7"+name+"|"+name, Word{4, "7", 0}, Word{1, name, 1}, Word{6, "|", 1 + n}, Word{1, name, 2 + n})
		has(t, name+`"`+name+`"`+name, Word{1, name, 0}, Word{5, name, n}, Word{1, name, 2*n + 2})
	}
	hasNot(t, "aé", 1, api.ErrSyntax)
	hasNot(t, "é", 0, api.ErrSyntax)
	hasNot(t, ".é", 1, api.ErrSyntax)
	hasNot(t, "$é", 1, api.ErrSyntax)
	hasNot(t, "a-b", 1, api.ErrSyntax)
	hasNot(t, ".a-b", 2, api.ErrSyntax)
}

func TestLongNames(t *testing.T) { // P18.2, Limits
	for _, whole := range []string{strings.Repeat("a", 32), strings.Repeat("_", 32), "Z" + strings.Repeat("9", 31)} {
		has(t, whole, Word{1, whole, 0})
		has(t, "."+whole, Word{2, "." + whole, 0})
		has(t, ".a."+whole+".b."+whole, Word{2, ".a." + whole + ".b." + whole, 0})
		has(t, "$"+whole, Word{3, "$" + whole, 0})
		has(t, "$"+whole+"."+whole+"."+whole, Word{3, "$" + whole + "." + whole + "." + whole, 0})
		for _, long := range []string{whole + "a", whole + "_", whole + "0", whole + whole, strings.Repeat(whole, 1000)} {
			for _, ahead := range []string{"", "|", "a ", ". ", "-1", `"\n"`, blanks} {
				n := len(ahead)
				for _, behind := range []string{"", " ", "\xff", ".", "..", ". b", `"`, "\\"} {
					hasNot(t, ahead+long+behind, n, api.ErrLong)
					hasNot(t, ahead+"."+long+behind, n, api.ErrLong)
					hasNot(t, ahead+".a."+long+behind, n, api.ErrLong)
					hasNot(t, ahead+"."+long+".a"+behind, n, api.ErrLong)
					hasNot(t, ahead+"$"+long+behind, n, api.ErrLong)
					hasNot(t, ahead+"$."+long+behind, n, api.ErrLong)
					hasNot(t, ahead+"$a.b."+long+behind, n, api.ErrLong)
					hasNot(t, ahead+"$"+long+".a"+behind, n, api.ErrLong)
				}
			}
			hasNot(t, ".a.."+long, 0, api.ErrSyntax)
			hasNot(t, "$.1"+long, 0, api.ErrSyntax)
			hasNot(t, ". "+long, 2, api.ErrLong)
			hasNot(t, "$ "+long, 2, api.ErrLong)
			hasNot(t, "7"+long, 1, api.ErrLong)
		}
	}
	path := strings.Repeat(".a", 1000) // as many names as there are
	has(t, path, Word{2, path, 0})
	has(t, "$"+path, Word{3, "$" + path, 0})
}

func TestDots(t *testing.T) { // P18.2
	has(t, ".", Word{2, ".", 0})
	has(t, "..", Word{2, ".", 0}, Word{2, ".", 1})
	has(t, "..a", Word{2, ".", 0}, Word{2, ".a", 1})
	has(t, "...", Word{2, ".", 0}, Word{2, ".", 1}, Word{2, ".", 2})
	has(t, ". .a", Word{2, ".", 0}, Word{2, ".a", 2})
	has(t, ".1", Word{2, ".", 0}, Word{4, "1", 1})
	has(t, ".$", Word{2, ".", 0}, Word{3, "$", 1})
	has(t, `.""`, Word{2, ".", 0}, Word{5, "", 1})
	has(t, ".|", Word{2, ".", 0}, Word{6, "|", 1})
	has(t, "a.", Word{1, "a", 0}, Word{2, ".", 1})
	has(t, "a. b", Word{1, "a", 0}, Word{2, ".", 1}, Word{1, "b", 3})
	has(t, "a..b", Word{1, "a", 0}, Word{2, ".", 1}, Word{2, ".b", 2})
	has(t, "1.5", Word{4, "1", 0}, Word{2, ".", 1}, Word{4, "5", 2})
	has(t, "1.a", Word{4, "1", 0}, Word{2, ".a", 1})
	has(t, `"".`, Word{5, "", 0}, Word{2, ".", 2})
	has(t, "|.", Word{6, "|", 0}, Word{2, ".", 1})
	for _, word := range []string{".a", ".a.b", ".a1._", "$", "$a", "$.a", "$a.b.c"} {
		kind := 2
		if word[0] == '$' {
			kind = 3
		}
		n := len(word)
		has(t, word+".", Word{kind, word, 0}, Word{2, ".", n}) // the last octet
		has(t, "."+word+".", Word{2, ".", 0}, Word{kind, word, 1}, Word{2, ".", n + 1})
		has(t, "a|"+word+".", Word{1, "a", 0}, Word{6, "|", 1}, Word{kind, word, 2}, Word{2, ".", n + 2})
		for _, c := range []byte(every()) {
			if !octets.Letter(c) && c != '_' {
				hasNot(t, word+"."+octet(c), 0, api.ErrSyntax)
				hasNot(t, word+"."+octet(c)+"a", 0, api.ErrSyntax)
				hasNot(t, "a  "+word+"."+octet(c)+".", 3, api.ErrSyntax)
			} else {
				has(t, word+"."+octet(c), Word{kind, word + "." + octet(c), 0})
			}
		}
	}
	hasNot(t, ".a..", 0, api.ErrSyntax)
	hasNot(t, "$..", 0, api.ErrSyntax)
	hasNot(t, ". .a. ", 2, api.ErrSyntax)
	has(t, "$", Word{3, "$", 0})
	has(t, "$$", Word{3, "$", 0}, Word{3, "$", 1})
	has(t, "$1", Word{3, "$", 0}, Word{4, "1", 1})
	has(t, "$-1", Word{3, "$", 0}, Word{4, "-1", 1})
	has(t, "$a$", Word{3, "$a", 0}, Word{3, "$", 2})
	has(t, "$:=$", Word{3, "$", 0}, Word{6, ":=", 1}, Word{3, "$", 3})
}

func TestNumbers(t *testing.T) { // P18.2
	for _, n := range []string{"0", "1", "9", "10", "-1", "-9", "-10", "123456789", "9223372036854775807", "-9223372036854775808", "1000000000000000000"} {
		has(t, n, Word{4, n, 0})
		has(t, n+"a", Word{4, n, 0}, Word{1, "a", len(n)})
		has(t, n+"-1", Word{4, n, 0}, Word{4, "-1", len(n)})
		has(t, n+".", Word{4, n, 0}, Word{2, ".", len(n)})
		has(t, n+" "+n, Word{4, n, 0}, Word{4, n, len(n) + 1})
		has(t, "|"+n+"|", Word{6, "|", 0}, Word{4, n, 1}, Word{6, "|", 1 + len(n)})
	}
	for _, n := range []string{"-", "--1", "- 1", "-a", "-.", "-$", "-|", "-\"", "00", "01", "007", "-0", "-00", "-01", "00000000000000000000000", "-09223372036854775809", "099999999999999999999"} {
		for _, behind := range []string{"", " ", "a", "\xff", "|"} {
			hasNot(t, n+behind, 0, api.ErrSyntax)
			hasNot(t, "a "+n+behind, 2, api.ErrSyntax)
		}
	}
	for _, n := range []string{"9223372036854775808", "-9223372036854775809", "18446744073709551616", "10000000000000000000", "99999999999999999999", "-99999999999999999999", strings.Repeat("1", 1000), "-" + strings.Repeat("9", 10000)} {
		for _, behind := range []string{"", " ", "a", "\xff", "-", "."} {
			hasNot(t, n+behind, 0, api.ErrRange)
			hasNot(t, ". "+n+behind, 2, api.ErrRange)
		}
	}
	for n := -1200; n < 1200; n++ {
		has(t, number.Print(n), Word{4, strconv.Itoa(n), 0})
	}
}

func TestSigns(t *testing.T) { // P18.2
	has(t, "|", Word{6, "|", 0})
	has(t, "||", Word{6, "|", 0}, Word{6, "|", 1})
	has(t, ":=", Word{6, ":=", 0})
	has(t, ":=:=", Word{6, ":=", 0}, Word{6, ":=", 2})
	has(t, "a:=b", Word{1, "a", 0}, Word{6, ":=", 1}, Word{1, "b", 3})
	has(t, "|:=|", Word{6, "|", 0}, Word{6, ":=", 1}, Word{6, "|", 3})
	hasNot(t, ":", 0, api.ErrSyntax)
	hasNot(t, "=", 0, api.ErrSyntax)
	hasNot(t, "::=", 0, api.ErrSyntax)
	hasNot(t, ":a", 0, api.ErrSyntax)
	hasNot(t, ":==", 2, api.ErrSyntax)
	hasNot(t, ":=:", 2, api.ErrSyntax)
	hasNot(t, "$a = 1", 3, api.ErrSyntax)
	hasNot(t, "a|=", 2, api.ErrSyntax)
}

func TestOctetsThatBeginNoWord(t *testing.T) { // P18.2
	for _, c := range []byte(every()) {
		s := octet(c)
		switch {
		case octets.Blank(c):
			has(t, s)
		case octets.Letter(c), c == '_':
			has(t, s, Word{1, s, 0})
		case c == '.':
			has(t, s, Word{2, s, 0})
		case c == '$':
			has(t, s, Word{3, s, 0})
		case '0' <= c && c <= '9':
			has(t, s, Word{4, s, 0})
		case c == '|':
			has(t, s, Word{6, s, 0})
		default: // of " , - and : , as no word is whole
			hasNot(t, s, 0, api.ErrSyntax)
			hasNot(t, "a "+s, 2, api.ErrSyntax)
			hasNot(t, ". $ 1 | \"\\n\":="+s, 14, api.ErrSyntax)
			hasNot(t, s+"}}", 0, api.ErrSyntax)
		}
	}
}

func TestTexts(t *testing.T) { // P18.2
	has(t, `""`, Word{5, "", 0})
	has(t, `"a"`, Word{5, "a", 0})
	has(t, `"\n\t\\\""`, Word{5, "\n\t\\\"", 0})
	has(t, `"a\nb\tc\\d\"e"`, Word{5, "a\nb\tc\\d\"e", 0})
	has(t, `"\\n"`, Word{5, `\n`, 0})
	has(t, `"\\\n"`, Word{5, "\\\n", 0})
	has(t, `"\\" "\""`, Word{5, `\`, 0}, Word{5, `"`, 5})
	has(t, `"a""b"`, Word{5, "a", 0}, Word{5, "b", 3})
	has(t, `"{{.}}|:=$ -1"`, Word{5, "{{.}}|:=$ -1", 0})
	for _, c := range []byte(every()) {
		s := octet(c)
		switch s {
		case "\n":
			hasNot(t, `"`+s+`"`, 1, api.ErrSyntax)
			hasNot(t, `a "b`+s+`c"`, 4, api.ErrSyntax)
			hasNot(t, `"`+s, 1, api.ErrSyntax)
		case `"`, `\`:
		default:
			has(t, `"`+s+`"`, Word{5, s, 0})
			has(t, `"a`+s+`b"`, Word{5, "a" + s + "b", 0})
			hasNot(t, `"`+s, 0, api.ErrSyntax)
		}
		if i := strings.Index(`nt\"`, s); i >= 0 {
			has(t, `"a\`+s+`b"`, Word{5, "a" + "\n\t\\\""[i:i+1] + "b", 0})
		} else {
			hasNot(t, `"\`+s+`"`, 1, api.ErrSyntax)
			hasNot(t, `a "b\`+s+`"`, 4, api.ErrSyntax)
			hasNot(t, `"\`+s, 1, api.ErrSyntax)
		}
	}
}

func TestTextsThatAreNone(t *testing.T) { // P18.2
	for s, place := range map[string]int{
		`"`: 0, `"a`: 0, `"a b`: 0, `"\"`: 0, `"\n`: 0, `"\\\"`: 0, `a"`: 1, `"a" "b`: 4, `"a""`: 3, `a "b c" "d`: 8, `"'`: 0,
		`"\`: 1, `"a\`: 2, `"\\\`: 3, `"\x"`: 1, `"\ n"`: 1, `"\N"`: 1, `"\r"`: 1, `"\0"`: 1, `"\'"`: 1, `"\/"`: 1, `"a\u0041"`: 2, `"\n\x\y"`: 3, `"" "\q`: 4,
		"\"\n\"": 1, "\"a\n": 2, "\"\\\n\"": 1, "\"\\n\n\"": 3, "\"\n\\x\"": 1, "\"\\x\n\"": 1, "\"\"\"\n\"": 3, "\"\n": 1,
	} {
		hasNot(t, s, place, api.ErrSyntax)
		hasNot(t, ".a| "+s, 4+place, api.ErrSyntax)
	}
}

func TestLongTexts(t *testing.T) { // P18.2, Limits
	const most = 4096
	for _, of := range []string{"a", "\xff", `\n`, `\\`, `\"`, " "} {
		stands := stoodFor.Replace(of)
		s := `"` + strings.Repeat(of, most) + `"`
		has(t, s, Word{5, strings.Repeat(stands, most), 0})
		has(t, s+s, Word{5, strings.Repeat(stands, most), 0}, Word{5, strings.Repeat(stands, most), len(s)})
		for _, count := range []int{1, 2, most, 100000} {
			long := `"` + strings.Repeat(of, most+count)
			hasNot(t, long+`"`, 0, api.ErrLong)
			hasNot(t, `a  `+long+`" ?`, 3, api.ErrLong)
			hasNot(t, `$`+s+long+`"`, 1+len(s), api.ErrLong)
			hasNot(t, `a `+long, 2, api.ErrSyntax) // a length counts at the end
			hasNot(t, long+"\n\"", len(long), api.ErrSyntax)
			hasNot(t, long+`\x"`, len(long), api.ErrSyntax)
			hasNot(t, long+`\`, len(long), api.ErrSyntax)
			hasNot(t, long+`" "\`, 0, api.ErrLong)
		}
	}
	half := strings.Repeat("é", most/2)
	has(t, `"`+half+`"`, Word{5, half, 0})
	hasNot(t, `"`+half+`a"`, 0, api.ErrLong)
}

func TestTheFirstError(t *testing.T) { // P18.2, P4
	long, great := strings.Repeat("a", 33), "9223372036854775808"
	faults := []struct {
		s     string
		place int
		err   api.Errno
	}{{long, 0, api.ErrLong}, {"." + long, 0, api.ErrLong}, {"$" + long, 0, api.ErrLong}, {great, 0, api.ErrRange}, {"01", 0, api.ErrSyntax}, {"-", 0, api.ErrSyntax}, {":", 0, api.ErrSyntax}, {"?", 0, api.ErrSyntax}, {".a. ", 0, api.ErrSyntax}, {"$. ", 0, api.ErrSyntax}, {`"\x"`, 1, api.ErrSyntax}, {"\"ab\n", 3, api.ErrSyntax}, {`"` + strings.Repeat("a", 4097) + `"`, 0, api.ErrLong}}
	for _, one := range faults {
		for _, two := range faults {
			for _, ahead := range []string{"", "a ", "$a:=", `"\""|.`} {
				if ahead == `"\""|.` && one.s[0] != '"' && one.s[0] != '?' {
					continue // a name would belong to the path
				}
				hasNot(t, ahead+one.s+" "+two.s, len(ahead)+one.place, one.err)
			}
		}
	}
}

func TestSmallActions(t *testing.T) { // P18.2
	for s := range smallTexts([]string{"a", ".", "$", "-", "0", "7", "\"", "\\", "n", " ", "|", ":", "=", "\n", "é"}, 5) {
		readsAsShould(t, s, 3)
	}
	for s := range smallTexts([]string{"a1", ".b", "$c", "$", ".", "-", "10", "\"", "\\t", "\\\"", "\t", ":=", strings.Repeat("d", 31), "9223372036854775807", "_"}, 4) {
		readsAsShould(t, s, -7)
	}
	for s := range smallTexts([]string{"\"", "\\", "x", "t", "\n", " "}, 7) {
		readsAsShould(t, s, 0)
	}
}

func TestPlacesWrapRound(t *testing.T) { // P1: of numbers of any size
	const top = 1<<63 - 1
	for _, base := range []int{top, -top - 1, -1, top - 1} {
		got, at, err := Words("a b", base)
		if want := []Word{{1, "a", base}, {1, "b", base + 2}}; !slices.Equal(got, want) || at != base || err != api.OK {
			t.Errorf("P18.2: Words at %d is %+v, %d, %d", base, got, at, err)
		}
		if got, at, err := Words("a ?", base); got != nil || at != base+2 || err != api.ErrSyntax {
			t.Errorf("P18.2: Words at %d is %+v, %d, %d", base, got, at, err)
		}
	}
}

func TestQuote(t *testing.T) { // P18.1
	for s, want := range map[string]string{
		"": `""`, "a": `"a"`, "\n": `"\n"`, "\t": `"\t"`, `\`: `"\\"`, `"`: `"\""`, `\n`: `"\\n"`, `\"`: `"\\\""`, "a\n\tb": `"a\n\tb"`, `""`: `"\"\""`, "\r\f\v\x00 ": "\"\r\f\v\x00 \"", "é\xff": "\"é\xff\"", "{{}}": `"{{}}"`, "'`/": "\"'`/\"", "n": `"n"`,
	} {
		if got := Quote(s); got != want {
			t.Errorf("P18.1: Quote(%q) is %q, not %q", s, got, want)
		}
	}
	for _, c := range []byte(every()) {
		s := octet(c)
		want := `"` + s + `"`
		switch c {
		case 10:
			want = `"\n"`
		case 9:
			want = `"\t"`
		case '\\':
			want = `"\\"`
		case '"':
			want = `"\""`
		}
		if got := Quote(s); got != want {
			t.Errorf("P18.1: Quote(%q) is %q, not %q", s, got, want)
		}
		if got := Quote(s + s + "a"); got != want[:len(want)-1]+want[1:len(want)-1]+`a"` {
			t.Errorf("P18.1: Quote(%q) is %q", s+s+"a", got)
		}
	}
}

// comesBack tells whether Words of Quote, alone and within an action, is the text.
func comesBack(t *testing.T, s string) {
	t.Helper()
	quoted := Quote(s)
	has(t, quoted, Word{5, s, 0})
	has(t, "a"+quoted+quoted, Word{1, "a", 0}, Word{5, s, 1}, Word{5, s, 1 + len(quoted)})
	cuts(t, "x{{"+quoted+"}}}}", text("x", 0), inside(quoted, 1), text("}}", len(quoted)+5))
	cuts(t, " {{- "+quoted+" -}} ", inside(quoted, 1))
}

func TestWordsOfQuote(t *testing.T) { // P18.3
	comesBack(t, every())
	for _, c := range []byte(every()) {
		comesBack(t, octet(c))
		comesBack(t, strings.Repeat(octet(c), 4096))
		comesBack(t, `\`+octet(c)+`"`)
		if got, at, err := Words(Quote(strings.Repeat(octet(c), 4097)), 9); got != nil || at != 9 || err != api.ErrLong {
			t.Errorf("P18.2: Words of a long text of %q is %s, %d, %d", c, brief(got), at, err)
		}
	}
	for s := range smallTexts([]string{"a", "\"", "\\", "\n", "n", "\t", "}}", "{{", "-", " ", "é"}, 4) {
		comesBack(t, s)
	}
}
