package percent

import (
	"fmt"
	"strings"
	"testing"

	"muslin/api"
)

func TestUnreservedAndReserved(t *testing.T) { // P7.1
	unreserved, reserved := 0, 0
	for i := range 256 {
		c := byte(i)
		if got, want := Unreserved(c), strings.IndexByte(ofURLs, c) >= 0; got != want {
			t.Errorf("P7.1: Unreserved(%q) is %t", c, got)
		}
		if got, want := Reserved(c), strings.IndexByte(partsURLs, c) >= 0; got != want {
			t.Errorf("P7.1: Reserved(%q) is %t", c, got)
		}
		if Unreserved(c) {
			unreserved++
		}
		if Reserved(c) {
			reserved++
		}
	}
	if unreserved != 26+26+10+4 || reserved != 15 {
		t.Errorf("P7.1: %d octets are unreserved, %d reserved", unreserved, reserved)
	}
	for _, c := range []byte("@[`{/:%\"'()<>\\^|\x00\x7f\x80\xff ") {
		if Unreserved(c) {
			t.Errorf("P7.1: %q is unreserved", c)
		}
	}
	for _, c := range []byte("%'()\"<>\\^`{|}-._~ aZ09\x00\x7f\x80\xff") {
		if Reserved(c) {
			t.Errorf("P7.1: %q is reserved", c)
		}
	}
}

func TestEncode(t *testing.T) { // P7.1
	for _, c := range []struct{ s, want string }{
		{"", ""},
		{"a b", "a%20b"},
		{ofURLs, ofURLs},
		{partsURLs, "%21%23%24%26%2a%2b%2c%2f%3a%3b%3d%3f%40%5b%5d"},
		{"%", "%25"},
		{"%%", "%25%25"},
		{"%41", "%2541"},
		{"%aF", "%25aF"},
		{"%4", "%254"},
		{"100%", "100%25"},
		{"a%20b", "a%2520b"},
		{"'()", "%27%28%29"},
		{"\"<>\\^`{|}", "%22%3c%3e%5c%5e%60%7b%7c%7d"},
		{"\t\n\r\x01\x1f\x7f", "%09%0a%0d%01%1f%7f"},
		{"é", "%c3%a9"},
		{"€", "%e2%82%ac"},
		{"😀", "%f0%9f%98%80"},
		{"\u0080\u07ff\u0800\uffff\U00010000\U0010ffff", "%c2%80%df%bf%e0%a0%80%ef%bf%bf%f0%90%80%80%f4%8f%bf%bf"},
		{"\x00", "%ef%bf%bd"},
		{"a\x00b", "a%ef%bf%bdb"},
		{"\x80", "%ef%bf%bd"},
		{"\xff\xfe", "%ef%bf%bd%ef%bf%bd"},
		{"\xc3", "%ef%bf%bd"},
		{"\xc3a", "%ef%bf%bda"},
		{"\xe2\x82", "%ef%bf%bd%ef%bf%bd"},
		{"\xe2\x82é", "%ef%bf%bd%ef%bf%bd%c3%a9"},
		{"\xed\xa0\x80", "%ef%bf%bd%ef%bf%bd%ef%bf%bd"},
		{putFor, "%ef%bf%bd"},
		{"javascript:x", "javascript%3ax"},
		{"//x/y?z=1&w", "%2f%2fx%2fy%3fz%3d1%26w"},
	} {
		if got := Encode(c.s); got != c.want {
			t.Errorf("P7.1: Encode(%q) is %q, not %q", c.s, got, c.want)
		}
	}
}

func TestNormal(t *testing.T) { // P7.1
	for _, c := range []struct{ s, want string }{
		{"", ""},
		{"a b", "a%20b"},
		{ofURLs, ofURLs},
		{partsURLs, partsURLs},
		{"%41", "%41"},
		{"%4a", "%4a"},
		{"%4A", "%4A"},
		{"%aF%Fa", "%aF%Fa"},
		{"%00%ff%FF%25", "%00%ff%FF%25"},
		{"%411", "%411"},
		{"%2541", "%2541"},
		{"%", "%25"},
		{"a%", "a%25"},
		{"%a", "%25a"},
		{"%4", "%254"},
		{"a%4", "a%254"},
		{"%4g", "%254g"},
		{"%g4", "%25g4"},
		{"%G4", "%25G4"},
		{"%gg", "%25gg"},
		{"%4 1", "%254%201"},
		{"% 41", "%25%2041"},
		{"%+4", "%25+4"},
		{"%-4", "%25-4"},
		{"%4/", "%254/"},
		{"%4:", "%254:"},
		{"%@4", "%25@4"},
		{"%%", "%25%25"},
		{"%%%", "%25%25%25"},
		{"%%41", "%25%41"},
		{"%%%41", "%25%25%41"},
		{"%%4", "%25%254"},
		{"%4%", "%254%25"},
		{"%4%41", "%254%41"},
		{"%41%", "%41%25"},
		{"%41%4", "%41%254"},
		{"%41%42", "%41%42"},
		{"%41%%42%", "%41%25%42%25"},
		{"%é4", "%25%c3%a94"},
		{"%4\x001", "%254%ef%bf%bd1"},
		{"%\xff41", "%25%ef%bf%bd41"},
		{"%4１", "%254%ef%bc%91"},
		{"'()", "%27%28%29"},
		{"\"<>\\^`{|}", "%22%3c%3e%5c%5e%60%7b%7c%7d"},
		{"é€😀", "%c3%a9%e2%82%ac%f0%9f%98%80"},
		{"\x00\xff\xc3a", "%ef%bf%bd%ef%bf%bd%ef%bf%bda"},
		{"http://u:p@x.org:80/a b;c?d=[e]&f=%20#g", "http://u:p@x.org:80/a%20b;c?d=[e]&f=%20#g"},
	} {
		if got := Normal(c.s); got != c.want {
			t.Errorf("P7.1: Normal(%q) is %q, not %q", c.s, got, c.want)
		}
	}
}

func TestEveryOctetEncoded(t *testing.T) { // P7.1
	for i := range 256 {
		c := string([]byte{byte(i)})
		for _, s := range []string{c, "a" + c, c + "a", "a" + c + "/", "%" + c, "%41" + c, c + "%41", "é" + c + "é", c + c} {
			if got, want := Encode(s), encodedText(s); got != want {
				t.Errorf("P7.1: Encode(%q) is %q, not %q", s, got, want)
			}
			if got, want := Normal(s), normalText(s); got != want {
				t.Errorf("P7.1: Normal(%q) is %q, not %q", s, got, want)
			}
		}
	}
}

func TestEveryCharacterEncoded(t *testing.T) { // P7.1
	for n := range 0x110000 {
		s := string(rune(n))
		if n < 0x80 {
			continue
		}
		if want := hexOf(s); Encode(s) != want || Normal(s) != want {
			t.Fatalf("P7.1: %q is told as %q and %q, not %q", s, Encode(s), Normal(s), want)
		}
	}
}

func TestDecode(t *testing.T) { // P7.2
	for _, c := range []struct{ s, want string }{
		{"", ""},
		{"a", "a"},
		{"a%20b", "a b"},
		{"%41", "A"},
		{"%4a%4A", "JJ"},
		{"%aF%Af%af%AF", "\xaf\xaf\xaf\xaf"},
		{"%00", "\x00"},
		{"%7f%80%ff%FF", "\x7f\x80\xff\xff"},
		{"%25", "%"},
		{"%2541", "%41"},
		{"%252541", "%2541"},
		{"%25%34%31", "%41"},
		{"%411", "A1"},
		{"%4141", "A41"},
		{"x%41", "xA"},
		{"x%41y%42z", "xAyBz"},
		{"%41%42%43", "ABC"},
		{"%c3%a9", "é"},
		{"%C3%A9", "é"},
		{"%c3", "\xc3"},
		{"%a9%c3", "\xa9\xc3"},
		{"a+b", "a+b"},
		{"é %2f", "é /"},
		{"\x00\xff", "\x00\xff"},
		{"\xc3%a9", "é"},
		{"\xe2\x82%41", "\xe2\x82A"},
		{"<'\">", "<'\">"},
		{ofURLs + partsURLs, ofURLs + partsURLs},
		{"4%314", "414"},
		{"％41", "％41"},
	} {
		if got, size, err := Decode(c.s); got != c.want || size != len(c.s) || err != api.OK {
			t.Errorf("P7.2: Decode(%q) is %q, %d, %d, not %q", c.s, got, size, err, c.want)
		}
	}
}

func TestDecodeOfWrongTexts(t *testing.T) { // P7.2, P4
	for s, place := range wrongTexts() {
		if got, at, err := Decode(s); got != "" || at != place || err != api.ErrSyntax {
			t.Errorf("P7.2: Decode(%.40q) is %.40q, %d, %d, not at %d", s, got, at, err, place)
		}
		for _, behind := range []string{"%", "%z", "%41%4", "é%"} { // the first one counts
			whole := s + "\x00" + behind
			if got, at, err := Decode(whole); got != "" || at != place || err != api.ErrSyntax {
				t.Errorf("P7.2: Decode(%.40q) is %.40q, %d, %d, not at %d", whole, got, at, err, place)
			}
		}
		for _, ahead := range []string{"a", "%41", "4", "%25", "é/%20", "\xff", "\x00"} {
			if got, at, err := Decode(ahead + s); got != "" || at != len(ahead)+place || err != api.ErrSyntax {
				t.Errorf("P7.2: Decode(%.40q) is %.40q, %d, %d, not at %d", ahead+s, got, at, err, len(ahead)+place)
			}
		}
	}
}

func TestEveryTwoOctetsBehindASign(t *testing.T) { // P7.2, P7.1
	good := 0
	for a := range 256 {
		for b := range 256 {
			pair := string([]byte{byte(a), byte(b)})
			if _, _, err := Decode("%" + pair); err == api.OK {
				good++
			}
			for _, s := range []string{"%" + pair, "x%" + pair + "y", "%41%" + pair + "%42"} {
				want, wantAt, wantErr := decodedText(s)
				if got, at, err := Decode(s); got != want || at != wantAt || err != wantErr {
					t.Fatalf("P7.2: Decode(%q) is %q, %d, %d, not %q, %d, %d", s, got, at, err, want, wantAt, wantErr)
				}
				if got, want := Normal(s), normalText(s); got != want {
					t.Fatalf("P7.1: Normal(%q) is %q, not %q", s, got, want)
				}
			}
		}
	}
	if good != 22*22 {
		t.Errorf("P7.2: %d pairs of octets are decoded behind a sign", good)
	}
}

func TestDecodeOfEveryOctetsDigits(t *testing.T) { // P7.2
	for i := range 256 {
		c := string([]byte{byte(i)})
		for _, s := range []string{fmt.Sprintf("%%%02x", i), fmt.Sprintf("%%%02X", i)} {
			if got, at, err := Decode(s); got != c || at != 3 || err != api.OK {
				t.Errorf("P7.2: Decode(%q) is %q, %d, %d", s, got, at, err)
			}
			if got, at, err := Decode(s + s + "41"); got != c+c+"41" || at != 8 || err != api.OK {
				t.Errorf("P7.2: Decode(%q) is %q, %d, %d", s+s+"41", got, at, err)
			}
		}
		if got, at, err := Decode(c); i != '%' && (got != c || at != 1 || err != api.OK) {
			t.Errorf("P7.2: Decode(%q) is %q, %d, %d", c, got, at, err)
		}
	}
}

func TestSmallTexts(t *testing.T) { // P7.1, P7.2
	for s := range smallTexts(smallPieces(), 5) {
		if got, want := Encode(s), encodedText(s); got != want {
			t.Fatalf("P7.1: Encode(%q) is %q, not %q", s, got, want)
		}
		if got, want := Normal(s), normalText(s); got != want {
			t.Fatalf("P7.1: Normal(%q) is %q, not %q", s, got, want)
		}
		want, wantAt, wantErr := decodedText(s)
		if got, at, err := Decode(s); got != want || at != wantAt || err != wantErr {
			t.Fatalf("P7.2: Decode(%q) is %q, %d, %d, not %q, %d, %d", s, got, at, err, want, wantAt, wantErr)
		}
	}
}

func TestOddTexts(t *testing.T) { // P7.1, P7.2
	texts := oddTexts()
	for i, s := range texts {
		for _, whole := range []string{s, s + s, s + texts[len(texts)-1-i], "%" + s, s + "%"} {
			if got, want := Encode(whole), encodedText(whole); got != want {
				t.Errorf("P7.1: Encode(%.60q) is %.60q, not %.60q", whole, got, want)
			}
			if got, want := Normal(whole), normalText(whole); got != want {
				t.Errorf("P7.1: Normal(%.60q) is %.60q, not %.60q", whole, got, want)
			}
			want, wantAt, wantErr := decodedText(whole)
			if got, at, err := Decode(whole); got != want || at != wantAt || err != wantErr {
				t.Errorf("P7.2: Decode(%.60q) is %.60q, %d, %d, not %.60q, %d, %d", whole, got, at, err, want, wantAt, wantErr)
			}
		}
	}
}
