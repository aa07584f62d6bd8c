package utf

import (
	"math"
	"slices"
	"strconv"
	"strings"
	"sync"
	"testing"
	"unsafe"

	"muslin/api"
)

const putFor = "\xef\xbf\xbd" // U+FFFD

// formed answers how many octets the character has that s begins with, 0 of none: by the Unicode Standard's table 3-7, which the program does not look at.
func formed(s string) int {
	for _, row := range []struct {
		first, second [2]byte
		size          int
	}{
		{[2]byte{0x00, 0x7f}, [2]byte{}, 1},
		{[2]byte{0xc2, 0xdf}, [2]byte{0x80, 0xbf}, 2},
		{[2]byte{0xe0, 0xe0}, [2]byte{0xa0, 0xbf}, 3},
		{[2]byte{0xe1, 0xec}, [2]byte{0x80, 0xbf}, 3},
		{[2]byte{0xed, 0xed}, [2]byte{0x80, 0x9f}, 3},
		{[2]byte{0xee, 0xef}, [2]byte{0x80, 0xbf}, 3},
		{[2]byte{0xf0, 0xf0}, [2]byte{0x90, 0xbf}, 4},
		{[2]byte{0xf1, 0xf3}, [2]byte{0x80, 0xbf}, 4},
		{[2]byte{0xf4, 0xf4}, [2]byte{0x80, 0x8f}, 4},
	} {
		if len(s) < row.size || !between(s[0], row.first) {
			continue
		}
		if row.size > 1 && !between(s[1], row.second) {
			continue
		}
		if row.size > 2 && !between(s[2], [2]byte{0x80, 0xbf}) {
			continue
		}
		if row.size > 3 && !between(s[3], [2]byte{0x80, 0xbf}) {
			continue
		}
		return row.size
	}
	return 0
}

func between(c byte, ends [2]byte) bool {
	return ends[0] <= c && c <= ends[1]
}

// number answers the number that size octets at the beginning of s are written for.
func number(s string, size int) int {
	n := int(s[0])
	if size > 1 {
		n &= 1<<(7-size) - 1
	}
	for i := 1; i < size; i++ {
		n = n<<6 | int(s[i]&0x3f)
	}
	return n
}

// written answers the octets of c, in the given count of them, whether c is a character or not.
func written(c int, size int) string {
	if size == 1 {
		return string([]byte{byte(c)})
	}
	out := make([]byte, size)
	for i := size - 1; i > 0; i-- {
		out[i] = byte(0x80 | c&0x3f)
		c >>= 6
	}
	out[0] = byte(0xf00>>size | c)
	return string(out)
}

// shortest answers how many octets the number c needs.
func shortest(c int) int {
	switch {
	case c < 0x80:
		return 1
	case c < 0x800:
		return 2
	case c < 0x10000:
		return 3
	}
	return 4
}

// told answers what Valid, Repair and Chars ought to answer of s.
func told(s string) (bool, string, []int) {
	valid, repaired, chars := true, "", []int{}
	for s != "" {
		size := formed(s)
		switch {
		case size == 0:
			valid, size = false, 1
			repaired, chars = repaired+putFor, append(chars, 0xfffd)
		case s[0] == 0:
			repaired, chars = repaired+putFor, append(chars, 0xfffd)
		default:
			repaired, chars = repaired+s[:size], append(chars, number(s, size))
		}
		s = s[size:]
	}
	return valid, repaired, chars
}

// brokenTexts are texts that begin with no character, whatever but an octet of 0x80 to 0xbf stands behind them.
func brokenTexts() []string {
	texts := []string{
		"\x80", "\x8f", "\x90", "\x9f", "\xa0", "\xbf", "\xc0", "\xc1", "\xf5", "\xf8", "\xfc", "\xfe", "\xff",
		"\xc2", "\xdf", "\xe0", "\xed", "\xef", "\xf0", "\xf4",
		"\xe0\xa0", "\xe2\x82", "\xed\x9f", "\xef\xbf", "\xf0\x90", "\xf0\x9f\x98", "\xf4\x8f", "\xf4\x8f\xbf",
		"\xc0\x80", "\xc0\xaf", "\xc1\xbf", "\xe0\x80\x80", "\xe0\x80\xaf", "\xe0\x9f\xbf", "\xf0\x80\x80\x80", "\xf0\x80\x80\xaf", "\xf0\x8f\xbf\xbf",
		"\xed\xa0\x80", "\xed\xaf\xbf", "\xed\xb0\x80", "\xed\xbf\xbf", "\xed\xa0\xbd\xed\xb8\x80",
		"\xf4\x90\x80\x80", "\xf4\xbf\xbf\xbf", "\xf5\x80\x80\x80", "\xf7\xbf\xbf\xbf",
		"\xf8\x88\x80\x80\x80", "\xfb\xbf\xbf\xbf\xbf", "\xfc\x84\x80\x80\x80\x80", "\xfd\xbf\xbf\xbf\xbf\xbf", "\xff\xfe", "\xfe\xff",
	}
	for _, c := range []int{0xd800, 0xdbff, 0xdc00, 0xdfff} {
		texts = append(texts, written(c, 3))
	}
	for _, c := range []int{0x110000, 0x13ffff, 0x140000, 0x1fffff} {
		texts = append(texts, written(c, 4))
	}
	for _, c := range []int{0, 0x2f, 0x7f, 0x80, 0x7ff, 0x800, 0xffff} {
		for size := shortest(c) + 1; size <= 4; size++ {
			texts = append(texts, written(c, size))
		}
	}
	return texts
}

// mixedTexts are texts for the promises that hold of any text: what is broken, and 0, at the beginning, in the midst and at the end.
func mixedTexts() []string {
	texts := []string{
		"", "a", "\x00", "\x00\x00", "a\x00", "\x00a", "a\x00b", "é", "€", "😀", "\uffff", "\U0010ffff", "\ue000", "\ud7ff", putFor, putFor + "\x00", "\ufeffa",
		"plain text", "<b>{{.}}</b>", "grüße, 世界 😀", "\x7f\u0080\u07ff\u0800\uffff\U00010000", strings.Repeat("é€😀\x00\xff", 1000), everyOctet(),
	}
	for _, s := range append(brokenTexts(), "\x00") {
		texts = append(texts, s, s+"a", "a"+s, "é"+s+"€", s+"😀", "😀"+s, s+s, "\x00"+s+"\x00", putFor+s+putFor, s+"a"+s+"é"+s)
	}
	return texts
}

func everyOctet() string {
	b := make([]byte, 256)
	for i := range b {
		b[i] = byte(i)
	}
	return string(b)
}

func characters(yield func(c int) bool) {
	for c := range 0x110000 {
		if c >= 0xd800 && c <= 0xdfff {
			continue
		}
		if !yield(c) {
			return
		}
	}
}

func TestEncode(t *testing.T) { // P2.1
	for _, c := range []struct {
		c    int
		want string
		err  api.Errno
	}{
		{0, "\x00", api.OK},
		{'a', "a", api.OK},
		{0x7f, "\x7f", api.OK},
		{0x80, "\xc2\x80", api.OK},
		{233, "\xc3\xa9", api.OK},
		{0x7ff, "\xdf\xbf", api.OK},
		{0x800, "\xe0\xa0\x80", api.OK},
		{0x20ac, "\xe2\x82\xac", api.OK},
		{0xd7ff, "\xed\x9f\xbf", api.OK},
		{0xd800, "", api.ErrRange},
		{0xdbff, "", api.ErrRange},
		{0xdc00, "", api.ErrRange},
		{0xdfff, "", api.ErrRange},
		{0xe000, "\xee\x80\x80", api.OK},
		{0xfffd, "\xef\xbf\xbd", api.OK},
		{0xfffe, "\xef\xbf\xbe", api.OK},
		{0xffff, "\xef\xbf\xbf", api.OK},
		{0x10000, "\xf0\x90\x80\x80", api.OK},
		{0x1f600, "\xf0\x9f\x98\x80", api.OK},
		{0x10ffff, "\xf4\x8f\xbf\xbf", api.OK},
		{0x110000, "", api.ErrRange},
		{-1, "", api.ErrRange},
		{-233, "", api.ErrRange},
		{math.MaxInt, "", api.ErrRange},
		{math.MinInt, "", api.ErrRange},
		{math.MaxInt32, "", api.ErrRange},
		{math.MinInt32, "", api.ErrRange},
		{math.MaxUint32, "", api.ErrRange},
		{1 << 32, "", api.ErrRange},
		{1<<32 + 'a', "", api.ErrRange},
		{1<<32 + 0x10ffff, "", api.ErrRange},
		{1<<62 + 'a', "", api.ErrRange},
		{math.MinInt + 'a', "", api.ErrRange},
		{-1<<32 + 'a', "", api.ErrRange},
	} {
		if got, err := Encode(c.c); got != c.want || err != c.err {
			t.Errorf("P2.1: Encode(%#x) is %q, %d, not %q, %d", c.c, got, err, c.want, c.err)
		}
	}
}

func TestEncodeOfEveryNumber(t *testing.T) { // P2.1, P4
	for c := -0x1000; c < 0x120000; c++ {
		want, wantErr := "", api.ErrRange
		if c >= 0 && c <= 0x10ffff && (c < 0xd800 || c > 0xdfff) {
			want, wantErr = written(c, shortest(c)), api.OK
		}
		if got, err := Encode(c); got != want || err != wantErr {
			t.Fatalf("P2.1: Encode(%#x) is %q, %d, not %q, %d", c, got, err, want, wantErr)
		}
	}
}

func TestDecode(t *testing.T) { // P2.1
	for _, c := range []struct {
		s          string
		want, size int
	}{
		{"", -1, 0},
		{"\x00", 0, 1},
		{"\x00a", 0, 1},
		{"a", 'a', 1},
		{"\x7f\x80", 0x7f, 1},
		{"é", 233, 2},
		{"\xc2\x80", 0x80, 2},
		{"\xdf\xbf", 0x7ff, 2},
		{"\xe0\xa0\x80", 0x800, 3},
		{"\xed\x9f\xbf", 0xd7ff, 3},
		{"\xee\x80\x80", 0xe000, 3},
		{"\xef\xbf\xbd", 0xfffd, 3},
		{"\xef\xbf\xbdx", 0xfffd, 3},
		{"\xef\xbf\xbd\xff", 0xfffd, 3},
		{"\xef\xbf\xbf", 0xffff, 3},
		{"\xf0\x90\x80\x80", 0x10000, 4},
		{"\xf4\x8f\xbf\xbf", 0x10ffff, 4},
	} {
		if got, size := Decode(c.s); got != c.want || size != c.size {
			t.Errorf("P2.1: Decode(%q) is %d, %d, not %d, %d", c.s, got, size, c.want, c.size)
		}
	}
	for _, s := range brokenTexts() {
		for _, behind := range []string{"", "a", "\x00", "é", "\xff", "\xc0", putFor} {
			if got, size := Decode(s + behind); got != -1 || size != 1 {
				t.Errorf("P2.1: Decode(%q) is %d, %d, not -1, 1", s+behind, got, size)
			}
		}
	}
}

func TestDecodeWithAnythingBehind(t *testing.T) { // P2.1
	for _, c := range []int{0, 1, 0x7f, 0x80, 0x7ff, 0x800, 0xd7ff, 0xe000, 0xfffd, 0xffff, 0x10000, 0x10ffff} {
		s := written(c, shortest(c))
		for _, behind := range mixedTexts() {
			if got, size := Decode(s + behind); got != c || size != len(s) {
				t.Errorf("P2.1: Decode(%q) is %d, %d", s+behind, got, size)
			}
		}
	}
}

func TestDecodeOfWhatIsCutOff(t *testing.T) { // P2.1
	for c := range characters {
		if c > 0x3000 && c%97 != 0 && c < 0x10f000 {
			continue
		}
		whole := written(c, shortest(c))
		for size := 1; size < len(whole); size++ {
			for _, behind := range []string{"", "a", "\xc3\xa9", "\xff"} {
				if got, n := Decode(whole[:size] + behind); got != -1 || n != 1 {
					t.Fatalf("P2.1: Decode(%q) is %d, %d", whole[:size]+behind, got, n)
				}
			}
		}
		for size := 1; size < len(whole); size++ {
			if got, n := Decode(whole[size:]); got != -1 || n != 1 {
				t.Fatalf("P2.1: Decode(%q) is %d, %d", whole[size:], got, n)
			}
		}
	}
}

func TestDecodeOfNumbersThatAreNone(t *testing.T) { // P2.1
	none := func(s string) {
		if got, size := Decode(s); got != -1 || size != 1 {
			t.Fatalf("P2.1: Decode(%q) is %d, %d", s, got, size)
		}
		if Valid(s) || Repair(s) != strings.Repeat(putFor, len(s)) || Count(s) != len(s) {
			t.Fatalf("P2.2: %q is not repaired octet by octet", s)
		}
	}
	for c := 0xd800; c <= 0xdfff; c++ {
		none(written(c, 3))
	}
	for c := 0x110000; c < 0x200000; c += 61 {
		none(written(c, 4))
	}
	for c := range 0x10000 {
		for size := shortest(c) + 1; size <= 4; size++ {
			none(written(c, size))
		}
	}
}

func TestDecodeOfOctets(t *testing.T) { // P2.1
	ends := []byte{0x00, 0x7f, 0x80, 0x8f, 0x90, 0x9f, 0xa0, 0xbf, 0xc0, 0xff}
	look := func(s string) {
		want, size := -1, 1
		if n := formed(s); n > 0 {
			want, size = number(s, n), n
		}
		if got, n := Decode(s); got != want || n != size {
			t.Fatalf("P2.1: Decode(%q) is %d, %d, not %d, %d", s, got, n, want, size)
		}
		if got, want := Valid(s), allFormed(s); got != want {
			t.Fatalf("P2.1: Valid(%q) is %v", s, got)
		}
	}
	for a := range 256 {
		look(string([]byte{byte(a)}))
		for b := range 256 {
			look(string([]byte{byte(a), byte(b)}))
			for _, c := range ends {
				look(string([]byte{byte(a), byte(b), c}))
				for _, d := range ends[1:9] {
					look(string([]byte{byte(a), byte(b), c, d}))
				}
			}
		}
	}
}

func allFormed(s string) bool {
	for s != "" {
		size := formed(s)
		if size == 0 {
			return false
		}
		s = s[size:]
	}
	return true
}

func TestValid(t *testing.T) { // P2.1
	for _, s := range []string{"", "a", "\x00", "a\x00b", "é€😀", putFor, "\ufeff", "\uffff", "\U0010ffff", "\ud7ff\ue000", strings.Repeat("é", 1<<12)} {
		if !Valid(s) {
			t.Errorf("P2.1: not Valid(%q)", s)
		}
	}
	for _, s := range brokenTexts() {
		for _, whole := range []string{s, s + "a", "a" + s, "é" + s + "€", "\x00" + s, putFor + s, strings.Repeat("é", 1<<12) + s} {
			if Valid(whole) {
				t.Errorf("P2.1: Valid(%q)", whole)
			}
		}
	}
}

func TestRepair(t *testing.T) { // P2.2
	for _, c := range []struct {
		s, want string
		count   int
	}{
		{"", "", 0},
		{"a", "a", 1},
		{"é€😀", "é€😀", 3},
		{"\x00", "\ufffd", 1},
		{"a\x00b\x00", "a\ufffdb\ufffd", 4},
		{"\x00\x00\x00", "\ufffd\ufffd\ufffd", 3},
		{"\ufffd", "\ufffd", 1},
		{"\xff", "\ufffd", 1},
		{"\xffa", "\ufffda", 2},
		{"a\xff", "a\ufffd", 2},
		{"a\xffb", "a\ufffdb", 3},
		{"\xe2\x82", "\ufffd\ufffd", 2},
		{"\xe2\x82a", "\ufffd\ufffda", 3},
		{"\xe2\x82\xe2\x82\xac", "\ufffd\ufffd€", 3},
		{"\xe2\xe2\x82\xac\xac", "\ufffd€\ufffd", 3},
		{"\xf0\x9f\x98", "\ufffd\ufffd\ufffd", 3},
		{"\xf0\x9f\x98\xc3\xa9", "\ufffd\ufffd\ufffdé", 4},
		{"\xc3\xc3\xa9", "\ufffdé", 2},
		{"\xc0\x80", "\ufffd\ufffd", 2},
		{"\xc0\xaf", "\ufffd\ufffd", 2},
		{"\xed\xa0\x80", "\ufffd\ufffd\ufffd", 3},
		{"\xed\xa0\xbd\xed\xb8\x80", "\ufffd\ufffd\ufffd\ufffd\ufffd\ufffd", 6},
		{"\xf4\x90\x80\x80", "\ufffd\ufffd\ufffd\ufffd", 4},
		{"\x80<\xbf", "\ufffd<\ufffd", 3},
		{"\xc3<b>", "\ufffd<b>", 4},
		{"\ufeffa", "\ufeffa", 2},
		{"\x01\x7f\u0080", "\x01\x7f\u0080", 3},
	} {
		if got := Repair(c.s); got != c.want {
			t.Errorf("P2.2: Repair(%q) is %q, not %q", c.s, got, c.want)
		}
		if got := Count(c.s); got != c.count {
			t.Errorf("P2.2: Count(%q) is %d, not %d", c.s, got, c.count)
		}
	}
}

func TestChars(t *testing.T) { // P2.2
	for _, c := range []struct {
		s    string
		want []int
	}{
		{"", nil},
		{"a", []int{'a'}},
		{"aé€😀", []int{'a', 233, 0x20ac, 0x1f600}},
		{"\x00", []int{0xfffd}},
		{"a\x00b", []int{'a', 0xfffd, 'b'}},
		{"\xff\x80a", []int{0xfffd, 0xfffd, 'a'}},
		{"é\xc3", []int{233, 0xfffd}},
		{"\xed\xbf\xbf", []int{0xfffd, 0xfffd, 0xfffd}},
		{"\U0010ffff\ufffd\uffff", []int{0x10ffff, 0xfffd, 0xffff}},
	} {
		if got := Chars(c.s); !slices.Equal(got, c.want) {
			t.Errorf("P2.2: Chars(%q) is %v, not %v", c.s, got, c.want)
		}
	}
}

func TestTextsAsTheirOctetsSay(t *testing.T) { // P2.1, P2.2
	for _, s := range mixedTexts() {
		valid, repaired, chars := told(s)
		if got := Valid(s); got != valid {
			t.Errorf("P2.1: Valid(%q) is %v", s, got)
		}
		if got := Repair(s); got != repaired {
			t.Errorf("P2.2: Repair(%q) is %q, not %q", s, got, repaired)
		}
		if got := Count(s); got != len(chars) {
			t.Errorf("P2.2: Count(%q) is %d, not %d", s, got, len(chars))
		}
		if got := Chars(s); !slices.Equal(got, chars) {
			t.Errorf("P2.2: Chars(%q) is %v, not %v", s, got, chars)
		}
	}
}

func TestCharactersComeBack(t *testing.T) { // P2.3
	for c := range characters {
		s, err := Encode(c)
		if err != api.OK || !Valid(s) {
			t.Fatalf("P2.3: Encode(%#x) is %q, %d", c, s, err)
		}
		if got, size := Decode(s); got != c || size != len(s) {
			t.Fatalf("P2.3: %#x comes back as %#x, of %d octets", c, got, size)
		}
		if got := Chars(s); len(got) != 1 || got[0] != c && c != 0 || Count(s) != 1 || Repair(s) != s && c != 0 {
			t.Fatalf("P2.3: %#x comes back as %v", c, got)
		}
	}
	for _, s := range mixedTexts() {
		var back strings.Builder
		for _, c := range Chars(s) {
			one, err := Encode(c)
			if err != api.OK {
				t.Errorf("P2.3: Chars(%q) has %#x", s, c)
			}
			back.WriteString(one)
		}
		if back.String() != Repair(s) {
			t.Errorf("P2.3: %q does not come back from its characters", s)
		}
	}
}

func TestRepairedIsValidAndItsOwn(t *testing.T) { // P2.4
	for _, s := range mixedTexts() {
		once := Repair(s)
		if !Valid(once) || strings.Contains(once, "\x00") {
			t.Errorf("P2.4: Repair(%q) is %q, not valid", s, once)
		}
		if twice := Repair(once); twice != once {
			t.Errorf("P2.4: %q, repaired again, is %q", once, twice)
		}
		if Count(once) != Count(s) || !slices.Equal(Chars(once), Chars(s)) {
			t.Errorf("P2.4: Repair(%q) has other characters", s)
		}
		if Valid(s) && !strings.Contains(s, "\x00") && once != s {
			t.Errorf("P2.4: %q is valid, and repaired it is %q", s, once)
		}
	}
}

// shares tells whether two texts have an octet of memory in common.
func shares(a string, b string) bool {
	if a == "" || b == "" {
		return false
	}
	from, to := uintptr(unsafe.Pointer(unsafe.StringData(a))), uintptr(unsafe.Pointer(unsafe.StringData(b)))
	return from < to+uintptr(len(b)) && to < from+uintptr(len(a))
}

func TestAnswersAreNewMemory(t *testing.T) { // P2.5, P2
	for _, s := range mixedTexts() {
		one, two := Repair(s), Repair(s)
		if len(one) > 1 && (shares(one, s) || shares(one, two)) { // the language keeps one text for each single octet
			t.Errorf("P2.5: Repair(%q) shares memory", s)
		}
	}
	for _, c := range []int{0x80, 0x800, 0xfffd, 0x10000} {
		one, _ := Encode(c)
		two, _ := Encode(c)
		if shares(one, two) {
			t.Errorf("P2.5: two answers of Encode(%#x) share memory", c)
		}
	}
}

func TestListsAreWrittenTo(t *testing.T) { // P2.5, P2
	for _, s := range mixedTexts() {
		one, two := Chars(s), Chars(s)
		want := slices.Clone(two)
		for i := range one {
			one[i] = -7
		}
		one = append(one, -7, -7)
		if !slices.Equal(two, want) || !slices.Equal(Chars(s), want) || len(one) != len(want)+2 {
			t.Errorf("P2.5: a list of Chars(%q), written to, changes another", s)
		}
	}
}

func TestArgumentsAreNotChanged(t *testing.T) { // P2.5, P2
	for _, s := range mixedTexts() {
		b := []byte(s)
		if len(b) == 0 {
			continue
		}
		given := unsafe.String(&b[0], len(b))
		repaired, chars := Repair(given), Chars(given)
		Decode(given)
		Valid(given)
		Count(given)
		if string(b) != s {
			t.Errorf("P2.5: %q was changed", s)
		}
		for i := range b {
			b[i] = '#'
		}
		if repaired != Repair(s) || !slices.Equal(chars, Chars(s)) {
			t.Errorf("P2.5: an answer of %q was kept in its argument's memory", s)
		}
	}
}

func TestGreatTextsAnswer(t *testing.T) { // P1, Limits
	for _, s := range []string{"a", "\x00", "\xff", "\xe2\x82", "é€😀\xf0"} {
		great := strings.Repeat(s, 1<<18)
		_, repaired, chars := told(s)
		if Repair(great) != strings.Repeat(repaired, 1<<18) || Count(great) != len(chars)<<18 || len(Chars(great)) != len(chars)<<18 {
			t.Errorf("P1: %q, told often, is not repaired", s)
		}
	}
}

func TestAnswersHangOnArgumentsAlone(t *testing.T) { // P3
	tell := func() string {
		var b strings.Builder
		for _, s := range mixedTexts() {
			c, size := Decode(s)
			one, err := Encode(c)
			b.WriteString(Repair(s) + one + strconv.Itoa(c) + strconv.Itoa(size) + strconv.Itoa(int(err)))
			b.WriteString(strconv.FormatBool(Valid(s)) + strconv.Itoa(Count(s)))
			for _, c := range Chars(s) {
				b.WriteString(strconv.Itoa(c))
			}
		}
		return b.String()
	}
	want := tell()
	got := make([]string, 8)
	var wait sync.WaitGroup
	for i := range got {
		wait.Go(func() { got[i] = tell() })
	}
	wait.Wait()
	for _, g := range got {
		if g != want {
			t.Error("P3: the calls answer otherwise from run to run")
		}
	}
}

func TestErrorsAreNumbersOfAPI(t *testing.T) { // P4, P5
	for _, c := range []int{-1, 0xd800, 0x110000} {
		if s, err := Encode(c); s != "" || int(err) != 4 {
			t.Errorf("P5: Encode(%#x) answers %q, %d", c, s, err)
		}
	}
	if s, err := Encode('a'); s != "a" || int(err) != 0 {
		t.Errorf("P5: Encode of a answers %q, %d", s, err)
	}
}
