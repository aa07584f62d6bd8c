package jstext

import (
	"fmt"
	"regexp"
	"strconv"
	"strings"
	"unicode/utf16"
	"unsafe"

	"muslin/api"
	"muslin/utf"
)

const broken = "\ufffd"

var (
	escapePiece  = regexp.MustCompile(`(?s)\A(?:\\u([0-9A-Fa-f]{4})|\\x([0-9A-Fa-f]{2})|\\([^0-9ux\n\r])|([^\\"'\n\r]))`)
	unsafeSign   = regexp.MustCompile("[<>&'\"/!\\-`\n\r\x00]")
	whatEscapeIs = regexp.MustCompile(`\A(?:[A-Za-z0-9 _.,]|\\u[0-9a-f]{4})*\z`)
)

// escaped tells what Escape should, by Go's library; utf.Repair has its own tests.
func escaped(s string) string {
	var out strings.Builder
	for _, c := range utf.Repair(s) {
		if strings.ContainsRune("abcdefghijklmnopqrstuvwxyzABCDEFGHIJKLMNOPQRSTUVWXYZ0123456789 _.,", c) && c != 0xfffd {
			out.WriteRune(c)
			continue
		}
		for _, unit := range utf16.AppendRune(nil, c) {
			fmt.Fprintf(&out, `\u%04x`, unit)
		}
	}
	return out.String()
}

// decoded tells what Decode should, by expressions and UTF-16 of Go's library.
func decoded(s string) (string, int, api.Errno) {
	var out strings.Builder
	var units []uint16 // of the \u that stand behind one another
	flush := func() {
		out.WriteString(string(utf16.Decode(units)))
		units = nil
	}
	for at := 0; at < len(s); {
		found := escapePiece.FindStringSubmatchIndex(s[at:])
		if found == nil {
			return "", at, api.ErrSyntax
		}
		group := func(n int) string {
			if found[2*n] < 0 {
				return ""
			}
			return s[at+found[2*n] : at+found[2*n+1]]
		}
		if digits := group(1); digits != "" {
			n, _ := strconv.ParseUint(digits, 16, 16)
			units = append(units, uint16(n))
		} else {
			flush()
			out.WriteString(other(group(2), group(3), group(4)))
		}
		at += found[1]
	}
	flush()
	return out.String(), len(s), api.OK
}

// other tells what a piece that is no \u tells, of which one part is not empty.
func other(digits string, behind string, itself string) string {
	short := map[string]string{"b": "\x08", "t": "\x09", "n": "\x0a", "v": "\x0b", "f": "\x0c", "r": "\x0d"}
	if told, ok := short[behind]; ok {
		return told
	}
	if digits != "" {
		n, _ := strconv.ParseUint(digits, 16, 8)
		return string(rune(n))
	}
	return behind + itself
}

// decodings are texts that Decode takes, and what it answers of them.
func decodings() map[string]string {
	return map[string]string{
		"": "", "a": "a", "a b": "a b", "az AZ 09 _.,": "az AZ 09 _.,", "<>&/!-`": "<>&/!-`", "\x00": "\x00", "\t\v\f\b": "\t\v\f\b", "\x7f": "\x7f", "u0041": "u0041", "x41": "x41", "é€😀": "é€😀", "\u2028\u2029": "\u2028\u2029", "\xff": "\xff", "a\xc3b": "a\xc3b", "\xe2\x82": "\xe2\x82", "\xf0\x9f\x98": "\xf0\x9f\x98", "\xed\xa0\x80": "\xed\xa0\x80", "\xed\xa0\xbd\xed\xb8\x80": "\xed\xa0\xbd\xed\xb8\x80", broken: broken,
		`\u0041`: "A", `\u00e9`: "é", `\u00E9`: "é", `\u20ac`: "€", `\u20AC`: "€", `\u20aC`: "€", `\uabcd`: "\uabcd", `\uABCD`: "\uabcd", `\uaBcD`: "\uabcd", `\u0000`: "\x00", `\u0001`: "\x01", `\u007f`: "\x7f", `\u0080`: "\u0080", `\u07ff`: "\u07ff", `\u0800`: "\u0800", `\ud7ff`: "\ud7ff", `\ue000`: "\ue000", `\ufffd`: broken, `\ufffe`: "\ufffe", `\uffff`: "\uffff", `\uFFFF`: "\uffff", `\u0022`: `"`, `\u0027`: "'", `\u005c`: `\`, `\u005cn`: `\n`, `\u005cu0041`: `\u0041`, `\u000a`: "\n", `\u000d`: "\r", `\u00411`: "A1", `\u0041f`: "Af", `\u0041\u0042`: "AB", `a\u0041b`: "aAb", `\u0041é`: "Aé", `é\u0041`: "éA",
		`\ud83d\ude00`: "😀", `\uD83D\uDE00`: "😀", `\uD83d\udE00`: "😀", `\ud800\udc00`: "\U00010000", `\ud800\udfff`: "\U000103ff", `\udbff\udc00`: "\U0010fc00", `\udbff\udfff`: "\U0010ffff", `a\ud83d\ude00b`: "a😀b", `\ud83d\ude00\ud83d\ude01`: "😀😁", `\ud83d\ude000`: "😀0",
		`\ud800`: broken, `\udbff`: broken, `\udc00`: broken, `\udfff`: broken, `\ud83d`: broken, `\ude00`: broken, `\uD83D`: broken, `\ude00\ud83d`: broken + broken, `\ud83d\ud83d`: broken + broken, `\ude00\ude00`: broken + broken, `\ud83d\ud83d\ude00`: broken + "😀", `\ud83d\ude00\ude00`: "😀" + broken, `\ude00\ud83d\ude00`: broken + "😀", `\ud83d\ude00\ud83d`: "😀" + broken,
		`\ud83d\u0041`: broken + "A", `\ud83d\ud7ff`: broken + "\ud7ff", `\ud83d\ue000`: broken + "\ue000", `\ud7ff\ude00`: "\ud7ff" + broken, `\ue000\ude00`: "\ue000" + broken, `\u0041\ude00`: "A" + broken, `\ud83d\xde`: broken + "Þ", `\ud83d\x00`: broken + "\x00", `\ud83da`: broken + "a", `\ud83dude00`: broken + "ude00", `\ud83d\n`: broken + "\n", `\ud83d\\ude00`: broken + `\ude00`, `\ud83d\U0000`: broken + "U0000", `\ud83d` + "\xed\xb8\x80": broken + "\xed\xb8\x80", `\ud83d` + "\xff": broken + "\xff", "\xed\xa0\xbd" + `\ude00`: "\xed\xa0\xbd" + broken, `\ud83dé`: broken + "é", `\ud83d\é`: broken + "é", `\ud83d \ude00`: broken + " " + broken, `a\ud83db`: "a" + broken + "b", `a\ude00b`: "a" + broken + "b",
		`\x41`: "A", `\x00`: "\x00", `\x0a`: "\n", `\x0A`: "\n", `\x0d`: "\r", `\x22`: `"`, `\x27`: "'", `\x5c`: `\`, `\x5cn`: `\n`, `\x7f`: "\x7f", `\x80`: "\u0080", `\xe9`: "é", `\xE9`: "é", `\xfF`: "ÿ", `\xff`: "ÿ", `\xFF`: "ÿ", `\xc3\xa9`: "Ã©", `\x411`: "A1", `\x41f`: "Af", `\x41\x42`: "AB", `\xd8\x3d`: "Ø=",
		`\b`: "\x08", `\t`: "\x09", `\n`: "\x0a", `\v`: "\x0b", `\f`: "\x0c", `\r`: "\x0d", `\b\t\n\v\f\r`: "\x08\x09\x0a\x0b\x0c\x0d", `a\nb`: "a\nb", `\na`: "\na", `\bb`: "\bb",
		`\B`: "B", `\T`: "T", `\N`: "N", `\V`: "V", `\F`: "F", `\R`: "R", `\U0041`: "U0041", `\X41`: "X41", `\a`: "a", `\c`: "c", `\e`: "e", `\z`: "z", `\A`: "A", `\'`: "'", `\"`: `"`, `\\`: `\`, `\/`: "/", "\\`": "`", `\<`: "<", `\-`: "-", `\ `: " ", `\_`: "_", "\\\x00": "\x00", "\\\x08": "\x08", "\\\t": "\t", "\\\v": "\v", "\\\f": "\f", "\\\x7f": "\x7f", "\\\x80": "\x80", "\\\xff": "\xff", "\\é": "é", "\\\xc3": "\xc3", "\\€": "€", "\\😀": "😀", "\\\u2028": "\u2028", `\:`: ":", `\@`: "@",
		`\\\\`: `\\`, `\\\"`: `\"`, `\\u0041`: `\u0041`, `\\x41`: `\x41`, `\\n`: `\n`, `\\\n`: "\\\n", `\\0`: `\0`, `\"\'`: `"'`, `it\'s`: "it's", `say \"so\"`: `say "so"`, `<\/script>`: "</script>",
	}
}

// refusals are texts that Decode refuses, and the places that it tells.
func refusals() map[string]int {
	return map[string]int{
		`\`: 0, `a\`: 1, `\\\`: 2, `é\`: 2, `\n\`: 2, `\u0041\`: 6, `\x41\`: 4, "\xff\\": 1,
		`\u`: 0, `\u0`: 0, `\u00`: 0, `\u004`: 0, `a\u004`: 1, `\u004g`: 0, `\ug041`: 0, `\u0g41`: 0, `\u00g1`: 0, `\u 041`: 0, `\u+041`: 0, `\u-041`: 0, `\u0x41`: 0, `\u00_1`: 0, `\u004 `: 0, `\u004"`: 0, `\u004\`: 0, `\u004\u0041`: 0, `\u{41}`: 0, `\u{0041}`: 0, "\\u004\xff": 0, "\\u00é": 0, `\u00４1`: 0, "\\u\n": 0, "\\u00\x004": 0, `\uu0041`: 0, `\u@041`: 0, "\\u`041": 0, `\u/041`: 0, `\u:041`: 0, `\uG041`: 0,
		`\x`: 0, `\x4`: 0, `a\x4`: 1, `\x4g`: 0, `\xg4`: 0, `\x 4`: 0, `\x+4`: 0, `\x4 `: 0, `\x4"`: 0, `\x4\`: 0, `\x4\x41`: 0, `\x{41}`: 0, "\\x4\xff": 0, `\xé`: 0, `\x\x41`: 0, `\xx41`: 0,
		`\0`: 0, `\1`: 0, `\7`: 0, `\8`: 0, `\9`: 0, `\00`: 0, `\012`: 0, `a\0`: 1, `\\\0`: 2, "\\\n": 0, "\\\r": 0, "\\\r\n": 0, "a\\\nb": 1, "a\\\rb": 1, "\\\\\\\n": 2,
		"\n": 0, "\r": 0, `"`: 0, "'": 0, "\na": 0, "\ra": 0, `"a`: 0, "'a": 0, "a\nb": 1, "a\rb": 1, `a"b`: 1, "a'b": 1, "a\n": 1, "a\r": 1, `a"`: 1, "a'": 1, "\r\n": 0, `""`: 0, "''": 0, `\\"`: 2, `\\'`: 2, "\\\\\n": 2, `\""`: 2, `\''`: 2, `é"`: 2, `\u0041"`: 6, `\x41'`: 4, "\\n\n": 2, `\ud83d"`: 6, `\ud83d\ude00"`: 12, "\xff\n": 1, "\x00\r": 1, "😀'": 4, `\u0022"`: 6,
		`\ud83d\`: 6, `\ud83d\u`: 6, `\ud83d\ude0`: 6, `\ud83d\ude0g`: 6, `\ud83d\ude0"`: 6, `\ud83d\x0`: 6, `\ud83d\0`: 6, `\ude00\`: 6, "\\ud83d\\\n": 6, `\ud83d\ud83d\`: 12, `\ud83d\ude00\`: 12,
		`a"\`: 1, `a\"\`: 3, `\0"`: 0, `"\0`: 0, `'"`: 0, "\n\"": 0,
	}
}

// oddTexts are texts for the promises that hold of any text.
func oddTexts() []string {
	every := make([]byte, 256)
	for i := range every {
		every[i] = byte(i)
	}
	out := []string{
		string(every), string(every[128:]), strings.Repeat(`\ud83d`, 300) + strings.Repeat(`\ude00`, 300), strings.Repeat(`\`, 1000), strings.Repeat(`\`, 1001), strings.Repeat(`\ud83d\ude00`, 300), strings.Repeat("😀", 300), strings.Repeat("a", 2000), strings.Repeat(`\x41`, 500), strings.Repeat("é", 500) + `"`, strings.Repeat(`\n`, 500) + "\n",
		"</script>", "<!--", "-->", "]]>", "a'b\"c`d", "it's", "f(\"x\")", "//", "/*", "${x}", "\U0000ffff\U00010000\U0010ffff", "\ud7ff\ue000", "\xed\x9f\xbf\xed\xa0\x80\xed\xbf\xbf\xee\x80\x80", "\xf4\x90\x80\x80", "\xf0\x8f\xbf\xbf", "\xc0\x80", "\xe2\x80\xa8\xe2\x80\xa9",
	}
	for s := range decodings() {
		out = append(out, s)
	}
	for s := range refusals() {
		out = append(out, s)
	}
	for _, c := range every {
		o := string([]byte{c})
		out = append(out, o, `\`+o, "a"+o+"b", `\`+o+"b", o+`\`, `\u00`+o+`1`, `\x4`+o, `\ud83d`+o, `\ud83d\`+o)
	}
	return out
}

// smallTexts hands out all texts of at most most of the pieces.
func smallTexts(pieces []string, most int) func(yield func(s string) bool) {
	return func(yield func(s string) bool) {
		var grow func(s string, more int) bool
		grow = func(s string, more int) bool {
			if !yield(s) {
				return false
			}
			for _, piece := range pieces {
				if more > 0 && !grow(s+piece, more-1) {
					return false
				}
			}
			return true
		}
		grow("", most)
	}
}

func smallPieces() []string {
	return []string{`\`, "u", "x", "4", "D83d", "de00", "n", `\ud83d`, `\uDE00`, `"`, "\n", "\x00", "\xc3", "é"}
}

// fresh answers s in octets that may be written to, and a text that lies in them.
func fresh(s string) ([]byte, string) {
	b := []byte(s)
	if len(b) == 0 {
		return nil, ""
	}
	return b, unsafe.String(&b[0], len(b))
}

// shares tells whether two texts have an octet of memory in common.
func shares(a string, b string) bool {
	if a == "" || b == "" {
		return false
	}
	from, to := uintptr(unsafe.Pointer(unsafe.StringData(a))), uintptr(unsafe.Pointer(unsafe.StringData(b)))
	return from < to+uintptr(len(b)) && to < from+uintptr(len(a))
}
