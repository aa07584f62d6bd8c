package schemes

import (
	"strings"
	"testing"
	"unicode/utf8"
)

func TestScheme(t *testing.T) { // P8.1
	for ahead, want := range schemesOfAll() {
		for _, behind := range []string{"", "x", "//example.org/a?b#c", ":", "::", "a:b", "/", "?", "#", "/:", "?:", "#:", " ", "%3a", "\x00", "\xff", "é", "HTTP:X"} {
			s := ahead + ":" + behind
			if got, ok := Scheme(s); got != want || !ok {
				t.Errorf("P8.1: Scheme(%.60q) is %.60q, %t, not %.60q", s, got, ok, want)
			}
		}
	}
}

func TestSchemeWhereThereIsNone(t *testing.T) { // P8.1, P4
	for _, s := range []string{
		"", "a", "http", "HTTP", "mailto", "é", "\x00", "\xff", "%3a", "http%3a//x", "javascript%3ax", "a.b", "a b",
		"/", "?", "#", "//", "/a", "?a", "#a", "a/", "a?", "a#", "a/b?c#d",
		"/:", "?:", "#:", "/http:", "?http:", "#http:", "//http:", "a/:", "a?:", "a#:", "http/:", "http?:", "http#:", "a/b:c", "a?b:c", "a#b:c", "javascript/:x", "javascript?:x", "javascript#:x",
		"/?#:", "#?/:", "a/b:c:d", "./a:b", "../a:b", "//x:80/", "/a?b:c", "?a=http://x/", "#:::", "\xe2/:", "\xff?:", "\x00#:", "é/é:",
		"http\uff1ax", "http\ufe55x", "http\u2236x", "a\xc0\xbab", "a\xe0\x80\xbab", "&#58;", "&colon;", "\\3a", "\\",
		mark,
	} {
		if got, ok := Scheme(s); got != "" || ok {
			t.Errorf("P8.1: Scheme(%.60q) is %.60q, %t", s, got, ok)
		}
	}
}

func TestPartsOfOtherAlphabets(t *testing.T) { // P8.1
	for s, want := range map[string]string{
		"a\uff0fb:c": "a\uff0fb", "a\u2215b:c": "a\u2215b", "\uff03:": "\uff03", "a\uff1fb:": "a\uff1fb", "a\uff1ab:c": "a\uff1ab", "a\\b:c": "a\\b", "a&b:c": "a&b", "a;b:c": "a;b",
		"a%2fb:c": "a%2fb", "a%3Fb:c": "a%3fb", "a%23b:c": "a%23b", "a\xc0\xafb:c": "a\xc0\xafb",
	} {
		if got, ok := Scheme(s); got != want || !ok {
			t.Errorf("P8.1: Scheme(%q) is %q, %t, not %q", s, got, ok, want)
		}
	}
}

func TestEveryOctet(t *testing.T) { // P8.1
	for i := range 256 {
		c := string([]byte{byte(i)})
		for _, s := range []string{c, c + ":", ":" + c, "a" + c + "B:", "a" + c + "b", c + "http:", "http" + c + ":x", "http:" + c, "ht" + c + "tp:", "http" + c, "/" + c + ":", c + "/:", c + c + ":"} {
			want, wantOK := schemeOf(s)
			if got, ok := Scheme(s); got != want || ok != wantOK {
				t.Errorf("P8.1: Scheme(%q) is %q, %t, not %q, %t", s, got, ok, want, wantOK)
			}
			if got, want := Filter(s), filtered(s); got != want {
				t.Errorf("P8.1: Filter(%q) is %q, not %q", s, got, want)
			}
			if Allowed(c) || Allowed("http"+c) != (c == "s") || Allowed(c+"http") || Allowed("https"+c) || Allowed("mailto"+c) || Allowed(c+"mailto") {
				t.Errorf("P8.1: a scheme with %q is allowed, or https is not", c)
			}
		}
	}
}

func TestEveryCharacterAheadOfTheEnd(t *testing.T) { // P8.1
	for n := range utf8.MaxRune + 1 {
		s := string(n) // U+FFFD of a number that is no character's
		want, wantOK := schemeOf(s + ":x")
		if got, ok := Scheme(s + ":x"); got != want || ok != wantOK {
			t.Fatalf("P8.1: Scheme(%q) is %q, %t, not %q, %t", s+":x", got, ok, want, wantOK)
		}
		if n >= utf8.RuneSelf && Filter("http"+s+":") != mark {
			t.Fatalf("P8.1: Filter(%q) is %q", "http"+s+":", Filter("http"+s+":"))
		}
	}
}

func TestAllowed(t *testing.T) { // P8.1
	three := []string{"http", "https", "mailto"}
	one := func(s string) bool { return s == three[0] || s == three[1] || s == three[2] }
	wrong := func(s string) {
		if !one(s) && Allowed(s) {
			t.Errorf("P8.1: %q is allowed", s)
		}
	}
	for _, s := range three {
		if !Allowed(s) {
			t.Errorf("P8.1: %q is not allowed", s)
		}
		for at := range len(s) {
			wrong(s[:at])
			wrong(s[at+1:])
			wrong(s[:at] + s[at+1:])
			wrong(s[:at] + strings.ToUpper(s[at:at+1]) + s[at+1:])
			for i := range 256 {
				c := string([]byte{byte(i)})
				wrong(s[:at] + c + s[at+1:])
				wrong(s[:at] + c + s[at:])
				wrong(s + c)
			}
		}
		for _, around := range []string{" ", "\t", "\n", "\x00", ":", "://", "é", s, "s", "x"} {
			wrong(around + s)
			wrong(s + around)
			wrong(around + s + around)
		}
		wrong(strings.ToUpper(s))
		wrong(strings.ToUpper(s[:1]) + s[1:])
		wrong(strings.Repeat(s, 1000))
	}
	for _, s := range []string{"", " ", ":", "http:", "http://", "javascript", "data", "vbscript", "ftp", "file", "ws", "wss", "tel", "sms", "blob", "about", "htt", "ttp", "mail", "mailto:", "http\u017f", "\u017f", "ｈｔｔｐ", "\xff", "\x00"} {
		if Allowed(s) {
			t.Errorf("P8.1: %q is allowed", s)
		}
	}
}

func TestMarker(t *testing.T) { // P8.1
	if got := Marker(); got != "#ZgotmplZ" {
		t.Errorf("P8.1: Marker is %q", got)
	}
	if got := Filter(Marker()); got != mark {
		t.Errorf("P8.1: Filter of Marker is %q", got)
	}
}

func TestFilter(t *testing.T) { // P8.1
	for _, c := range []struct{ s, want string }{
		{"", ""},
		{"javascript:x", mark},
		{"JavaScript:x", mark},
		{"javascript:", mark},
		{"javascript", "javascript"},
		{"javascript/:x", "javascript/:x"},
		{"javascript?:x", "javascript?:x"},
		{"javascript#:x", "javascript#:x"},
		{"/javascript:x", "/javascript:x"},
		{"?javascript:x", "?javascript:x"},
		{"#javascript:x", "#javascript:x"},
		{" javascript:x", mark},
		{"java\nscript:x", mark},
		{"java\x00script:x", mark},
		{"\xffjavascript:x", mark},
		{"javascript%3ax", "javascript%3ax"},
		{"javascript%3Ax", "javascript%3Ax"},
		{"javascript%:x", mark},
		{"javascript\uff1ax", "javascript%ef%bc%9ax"},
		{"data:text/html,<b>", mark},
		{"ftp://x/", mark},
		{"localhost:80", mark},
		{"a:", mark},
		{"a:b", mark},
		{":", mark},
		{":x", mark},
		{"::", mark},
		{":http:x", mark},
		{":/", mark},
		{":#", mark},
		{"x:http://y/", mark},
		{"http:", "http:"},
		{"http:x", "http:x"},
		{"http:javascript:x", "http:javascript:x"},
		{"http::", "http::"},
		{"http://x.org/", "http://x.org/"},
		{"https://x.org/", "https://x.org/"},
		{"mailto:a@b", "mailto:a@b"},
		{"HTTP://x.org/", "HTTP://x.org/"},
		{"HTTPS:", "HTTPS:"},
		{"MAILTO:A@B", "MAILTO:A@B"},
		{"hTtPs://X", "hTtPs://X"},
		{"MailTo:a b", "MailTo:a%20b"},
		{"http :x", mark},
		{" http:x", mark},
		{"http\x00:x", mark},
		{"ht\xfftp:x", mark},
		{"http\xc3:x", mark},
		{"\xe2\x82http:x", mark},
		{"httpé:x", mark},
		{"http\u017f:x", mark},
		{"http%:x", mark},
		{"%68ttp:x", mark},
		{"httpx:x", mark},
		{"htt:x", mark},
		{"httpss:x", mark},
		{"mailtos:x", mark},
		{"http:\x00", "http:%ef%bf%bd"},
		{"http:a\xffb", "http:a%ef%bf%bdb"},
		{"https:\xc3/", "https:%ef%bf%bd/"},
		{"mailto:\xe2\x82", "mailto:%ef%bf%bd%ef%bf%bd"},
		{"http:%41%4A%4g%", "http:%41%4A%254g%25"},
		{"http:%%41", "http:%25%41"},
		{"http:'\"<>", "http:%27%22%3c%3e"},
		{"http:é", "http:%c3%a9"},
		{"a", "a"},
		{"a b", "a%20b"},
		{"a\x00b", "a%ef%bf%bdb"},
		{"\xff", "%ef%bf%bd"},
		{"\xc3/a:b", "%ef%bf%bd/a:b"},
		{"\x00?a:b", "%ef%bf%bd?a:b"},
		{"%41", "%41"},
		{"%4g", "%254g"},
		{"%41/%4:", "%41/%254:"},
		{"/", "/"},
		{"//x.org:80/a b?c:d#e:f", "//x.org:80/a%20b?c:d#e:f"},
		{"?a=b:c", "?a=b:c"},
		{"#", "#"},
		{"../a:b", "../a:b"},
		{"a/b:c'd", "a/b:c%27d"},
		{"a\\b:c", mark},
		{"a&b:c", mark},
		{"a;b:c", mark},
		{mark, mark},
		{mark + ":", mark + ":"},
		{"x" + mark, "x" + mark},
		{"http:" + mark, "http:" + mark},
	} {
		if got := Filter(c.s); got != c.want {
			t.Errorf("P8.1: Filter(%q) is %q, not %q", c.s, got, c.want)
		}
	}
}

func TestSmallTexts(t *testing.T) { // P8.1
	for s := range smallTexts(smallPieces(), 5) {
		want, wantOK := schemeOf(s)
		if got, ok := Scheme(s); got != want || ok != wantOK {
			t.Fatalf("P8.1: Scheme(%q) is %q, %t, not %q, %t", s, got, ok, want, wantOK)
		}
		if got, want := Filter(s), filtered(s); got != want {
			t.Fatalf("P8.1: Filter(%q) is %q, not %q", s, got, want)
		}
	}
}

func TestOddTexts(t *testing.T) { // P8.1
	texts := oddTexts()
	for i, s := range texts {
		for _, whole := range []string{s, s + s, s + texts[len(texts)-1-i], ":" + s, s + ":", "http:" + s, "/" + s} {
			want, wantOK := schemeOf(whole)
			if got, ok := Scheme(whole); got != want || ok != wantOK {
				t.Fatalf("P8.1: Scheme(%.60q) is %.60q, %t, not %.60q, %t", whole, got, ok, want, wantOK)
			}
			if got, want := Filter(whole), filtered(whole); got != want {
				t.Fatalf("P8.1: Filter(%.60q) is %.60q, not %.60q", whole, got, want)
			}
			if _, ok := schemeOf(whole); ok && Allowed(want) != allowed.MatchString(whole) {
				t.Fatalf("P8.1: Allowed(%.60q) is %t", want, Allowed(want))
			}
		}
	}
}
