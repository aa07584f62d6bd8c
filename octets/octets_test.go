package octets

import (
	"math"
	"strconv"
	"strings"
	"sync"
	"testing"
	"unsafe"

	"muslin/api"
)

const (
	allSmall = "abcdefghijklmnopqrstuvwxyz"
	allGreat = "ABCDEFGHIJKLMNOPQRSTUVWXYZ"
	blanks   = "\t\n\f\r "
)

// everyOctet is a text of all octets, in order.
func everyOctet() string {
	b := make([]byte, 256)
	for i := range b {
		b[i] = byte(i)
	}
	return string(b)
}

// oddTexts are texts for the promises that hold of any text.
func oddTexts() []string {
	return []string{
		"", " ", blanks, "a", "A", "_", "0", "\x00", "\xff", "\x80\x85\xa0", "é", "É", "ß", "\u212a", "\u017f", "\u0130", "\u2028", "\u00a0x\u00a0",
		"aB", " aB ", "a b", "{{.}}", "<b>", "_0", "0_", "ff", "FF", "fg", "123456789", "\xc3", "\xed\xa0\x80",
		everyOctet(), strings.Repeat("x", 32), strings.Repeat("x", 33), strings.Repeat(" ", 1000), strings.Repeat("Z", 1<<17),
	}
}

func TestBlankIsFive(t *testing.T) { // P1.1
	for c := range 256 {
		want := strings.IndexByte(blanks, byte(c)) >= 0
		if got := Blank(byte(c)); got != want {
			t.Errorf("P1.1: Blank(%d) is %v", c, got)
		}
	}
	for _, c := range []byte{8, 11, 14, 31, 33, 0x85, 0xa0, 0} {
		if Blank(c) {
			t.Errorf("P1.1: Blank(%d), beside a blank", c)
		}
	}
}

func TestLetterIsFiftyTwo(t *testing.T) { // P1.1, P5
	for c := range 256 {
		want := strings.IndexByte(allSmall+allGreat, byte(c)) >= 0
		if got := Letter(byte(c)); got != want {
			t.Errorf("P1.1: Letter(%d) is %v", c, got)
		}
	}
	for _, c := range []byte{'a' - 1, 'z' + 1, 'A' - 1, 'Z' + 1, '_', '0', 0xe9, 0xc0} {
		if Letter(c) {
			t.Errorf("P1.1: Letter(%d), beside a letter", c)
		}
	}
}

func TestLowerAndUpperOfEveryOctet(t *testing.T) { // P1.1, P5
	for c := range 256 {
		s := string([]byte{byte(c)})
		low, up := s, s
		if i := strings.IndexByte(allGreat, byte(c)); i >= 0 {
			low = allSmall[i : i+1]
		}
		if i := strings.IndexByte(allSmall, byte(c)); i >= 0 {
			up = allGreat[i : i+1]
		}
		if got := Lower(s); got != low {
			t.Errorf("P1.1: Lower(%q) is %q", s, got)
		}
		if got := Upper(s); got != up {
			t.Errorf("P1.1: Upper(%q) is %q", s, got)
		}
	}
}

func TestLowerAndUpperOfTexts(t *testing.T) { // P1.1, P5
	for _, c := range []struct{ s, low, up string }{
		{"", "", ""},
		{"Hello, World 12_@[`{", "hello, world 12_@[`{", "HELLO, WORLD 12_@[`{"},
		{allSmall + allGreat, allSmall + allSmall, allGreat + allGreat},
		{"Éé\u212aK", "Éé\u212ak", "Éé\u212aK"},
		{"Aß\u0130\u0131\u017fz", "aß\u0130\u0131\u017fz", "Aß\u0130\u0131\u017fZ"},
		{"\xffA\x80a\x00", "\xffa\x80a\x00", "\xffA\x80A\x00"},
		{"\xc1\xe1\xda\xfa", "\xc1\xe1\xda\xfa", "\xc1\xe1\xda\xfa"},
	} {
		if got := Lower(c.s); got != c.low {
			t.Errorf("P1.1: Lower(%q) is %q, not %q", c.s, got, c.low)
		}
		if got := Upper(c.s); got != c.up {
			t.Errorf("P1.1: Upper(%q) is %q, not %q", c.s, got, c.up)
		}
	}
}

func TestNameOfOneAndTwoOctets(t *testing.T) { // P1.1
	begin := allSmall + allGreat + "_"
	for c := range 256 {
		one := string([]byte{byte(c)})
		if got, want := Name(one), strings.Contains(begin, one); got != want {
			t.Errorf("P1.1: Name(%q) is %v", one, got)
		}
		for _, ahead := range []string{"a", "Z", "_"} {
			two := ahead + one
			if got, want := Name(two), strings.Contains(begin+"0123456789", one); got != want {
				t.Errorf("P1.1: Name(%q) is %v", two, got)
			}
		}
		for _, ahead := range []string{"0", "9", "-", " ", "\x80"} {
			if two := ahead + one; Name(two) {
				t.Errorf("P1.1: Name(%q)", two)
			}
		}
	}
}

func TestNameByLength(t *testing.T) { // P1.1, Limits
	for _, c := range []struct {
		s    string
		want bool
	}{
		{"", false},
		{"x", true},
		{"_", true},
		{"__9", true},
		{"snake_Case9", true},
		{"9lives", false},
		{"two words", false},
		{"a.b", false},
		{"$a", false},
		{"café", false},
		{"a\x00", false},
		{" a", false},
		{"a ", false},
		{strings.Repeat("n", api.MaxName-1), true},
		{strings.Repeat("n", api.MaxName), true},
		{"_" + strings.Repeat("9", api.MaxName-1), true},
		{strings.Repeat("n", api.MaxName-1) + "-", false},
		{strings.Repeat("n", api.MaxName+1), false},
		{"9" + strings.Repeat("n", api.MaxName-1), false},
		{strings.Repeat("n", 1<<16), false},
	} {
		if got := Name(c.s); got != c.want {
			t.Errorf("P1.1: Name(%q) is %v", c.s, got)
		}
	}
}

func TestStarts(t *testing.T) { // P1.1, P5
	for _, c := range []struct {
		s, p string
		want bool
	}{
		{"", "", true},
		{"a", "", true},
		{"", "a", false},
		{"a", "a", true},
		{"a", "A", true},
		{"A", "a", true},
		{"a", "b", false},
		{"SCRIPT x", "script", true},
		{"script", "ScRiPt", true},
		{"scrip", "script", false},
		{"scripts", "script", true},
		{"xscript", "script", false},
		{"ab", "abc", false},
		{"abc", "abd", false},
		{"abc", "zbc", false},
		{"@", "`", false},
		{"[", "{", false},
		{"`", "@", false},
		{"_", "\x7f", false},
		{"1", "\x11", false},
		{"é", "É", false},
		{"É", "É", true},
		{"\xc3\xa9", "\xc3", true},
		{"\xc1", "\xe1", false},
		{"\xff\x80A", "\xff\x80a", true},
		{"\u212a", "k", false},
		{"k", "\u212a", false},
		{"\u017f", "s", false},
		{"s", "\u017f", false},
		{"\x00", "", true},
		{"\x00", "\x00", true},
		{" a", "a", false},
	} {
		if got := Starts(c.s, c.p); got != c.want {
			t.Errorf("P1.1: Starts(%q, %q) is %v", c.s, c.p, got)
		}
	}
}

func TestStartsOfEveryTwoOctets(t *testing.T) { // P1.1, P5
	for a := range 256 {
		for b := range 256 {
			s, p := string([]byte{byte(a), 'q'}), string([]byte{byte(b)})
			i, j := strings.Index(allSmall+allGreat, s[:1]), strings.Index(allSmall+allGreat, p)
			want := a == b || i >= 0 && j >= 0 && i%26 == j%26
			if got := Starts(s, p); got != want {
				t.Fatalf("P1.1: Starts(%q, %q) is %v", s, p, got)
			}
		}
	}
}

func TestTrim(t *testing.T) { // P1.1
	for _, c := range []struct{ s, want string }{
		{"", ""},
		{" ", ""},
		{blanks, ""},
		{blanks + "a" + blanks, "a"},
		{"a" + blanks, "a"},
		{blanks + "a", "a"},
		{"a" + blanks + "b", "a" + blanks + "b"},
		{" a  b ", "a  b"},
		{"\va\v", "\va\v"},
		{"\x00 \x00", "\x00 \x00"},
		{"\x08a\x0e", "\x08a\x0e"},
		{"\x1fa!", "\x1fa!"},
		{"\u00a0a\u2028", "\u00a0a\u2028"},
		{"\u0085a\u0085", "\u0085a\u0085"},
		{" \x85\xa0 ", "\x85\xa0"},
		{"\xff", "\xff"},
		{"\t\xe9\n", "\xe9"},
		{strings.Repeat(" ", 999) + "x" + strings.Repeat("\n", 999), "x"},
	} {
		if got := Trim(c.s); got != c.want {
			t.Errorf("P1.1: Trim(%q) is %q, not %q", c.s, got, c.want)
		}
	}
}

func TestTrimOfEveryOctet(t *testing.T) { // P1.1
	for c := range 256 {
		s := string([]byte{byte(c), 'x', byte(c)})
		want := s
		if strings.IndexByte(blanks, byte(c)) >= 0 {
			want = "x"
		}
		if got := Trim(s); got != want {
			t.Errorf("P1.1: Trim(%q) is %q", s, got)
		}
	}
}

func TestHex(t *testing.T) { // P1.2
	for _, c := range []struct {
		n, size int
		want    string
	}{
		{255, 4, "00ff"},
		{0, 1, "0"},
		{0, 0, ""},
		{0, 16, "0000000000000000"},
		{0xabcdef, 6, "abcdef"},
		{0xabcdef, 3, "def"},
		{0x12345, 1, "5"},
		{0x12345, 0, ""},
		{0x12345, -1, ""},
		{0x12345, math.MinInt, ""},
		{0x12345, 8, "00012345"},
		{0x12345, 17, "0000000000012345"},
		{0x12345, math.MaxInt, "0000000000012345"},
		{0x123456789, 8, "23456789"},
		{-1, 0, ""},
		{-1, 1, "f"},
		{-1, 8, "ffffffff"},
		{-1, 16, "ffffffffffffffff"},
		{-1, 99, "ffffffffffffffff"},
		{-2, 2, "fe"},
		{-256, 4, "ff00"},
		{math.MaxInt, 16, "7fffffffffffffff"},
		{math.MaxInt, 8, "ffffffff"},
		{math.MaxInt, 1, "f"},
		{math.MinInt, 16, "8000000000000000"},
		{math.MinInt, 15, "000000000000000"},
		{math.MinInt, 8, "00000000"},
		{math.MinInt, -8, ""},
		{math.MinInt + 1, 17, "8000000000000001"},
	} {
		if got := Hex(c.n, c.size); got != c.want {
			t.Errorf("P1.2: Hex(%d, %d) is %q, not %q", c.n, c.size, got, c.want)
		}
	}
}

func TestHexOfEverySize(t *testing.T) { // P1.2
	for _, n := range []int{0, 1, 9, 10, 15, 16, 0xfedcba9876543210 >> 1, -1, -0x123456789abcdef, math.MaxInt, math.MinInt} {
		whole := strconv.FormatUint(uint64(n), 16)
		whole = strings.Repeat("0", 16-len(whole)) + whole
		for size := -3; size < 20; size++ {
			want := whole[16-min(max(size, 0), 16):]
			if got := Hex(n, size); got != want {
				t.Errorf("P1.2: Hex(%d, %d) is %q, not %q", n, size, got, want)
			}
		}
	}
}

func TestUnhex(t *testing.T) { // P1.2, P4
	for _, c := range []struct {
		s    string
		want int
		err  api.Errno
	}{
		{"", 0, api.ErrShort},
		{"0", 0, api.OK},
		{"9", 9, api.OK},
		{"a", 10, api.OK},
		{"F", 15, api.OK},
		{"00ff", 255, api.OK},
		{"00FF", 255, api.OK},
		{"fF", 255, api.OK},
		{"abcdef", 0xabcdef, api.OK},
		{"ABCDEF", 0xabcdef, api.OK},
		{"01234567", 0x1234567, api.OK},
		{"00000000", 0, api.OK},
		{"80000000", 0x80000000, api.OK},
		{"ffffffff", 0xffffffff, api.OK},
		{"FFFFFFFF", 0xffffffff, api.OK},
		{"000000000", 0, api.ErrLong},
		{"fffffffff", 0, api.ErrLong},
		{"ggggggggg", 0, api.ErrLong},
		{"0000000g", 0, api.ErrSyntax},
		{"g0000000", 0, api.ErrSyntax},
		{"12g4", 0, api.ErrSyntax},
		{"-1", 0, api.ErrSyntax},
		{"+1", 0, api.ErrSyntax},
		{"0x1", 0, api.ErrSyntax},
		{"1_0", 0, api.ErrSyntax},
		{" 1", 0, api.ErrSyntax},
		{"1 ", 0, api.ErrSyntax},
		{"\x00", 0, api.ErrSyntax},
		{"\xff", 0, api.ErrSyntax},
		{"éééé", 0, api.ErrSyntax},
		{"ééééé", 0, api.ErrLong},
		{strings.Repeat("0", 1<<16), 0, api.ErrLong},
	} {
		if got, err := Unhex(c.s); got != c.want || err != c.err {
			t.Errorf("P1.2: Unhex(%q) is %d, %d, not %d, %d", c.s, got, err, c.want, c.err)
		}
	}
}

func TestUnhexOfEveryOctet(t *testing.T) { // P1.2, P4
	for c := range 256 {
		s := string([]byte{byte(c)})
		want, wantErr := 0, api.ErrSyntax
		if n, err := strconv.ParseUint(s, 16, 8); err == nil {
			want, wantErr = int(n), api.OK
		}
		if got, err := Unhex(s); got != want || err != wantErr {
			t.Errorf("P1.2: Unhex(%q) is %d, %d", s, got, err)
		}
		if got, err := Unhex("1" + s + "2"); (err == api.OK) != (wantErr == api.OK) || err == api.OK && got != 0x102+want<<4 || err != api.OK && got != 0 {
			t.Errorf("P1.2: Unhex(%q) is %d, %d", "1"+s+"2", got, err)
		}
	}
}

func TestNumbersComeBack(t *testing.T) { // P1.3
	back := func(n int, size int) {
		want := n & (1<<(4*size) - 1)
		for _, s := range []string{Hex(n, size), Upper(Hex(n, size))} {
			if got, err := Unhex(s); got != want || err != api.OK {
				t.Errorf("P1.3: Unhex(%q) is %d, %d, not %d", s, got, err, want)
			}
		}
	}
	for n := range 1 << 12 {
		for size := 1; size <= 8; size++ {
			back(n, size)
			back(-n, size)
			back(n<<20, size)
			back(math.MaxInt-n, size)
			back(math.MinInt+n, size)
		}
	}
	for n := 1; n < 1<<32; n = n*3 + 1 {
		if got, err := Unhex(Hex(n, 8)); got != n || err != api.OK {
			t.Errorf("P1.3: %d comes back as %d, %d", n, got, err)
		}
	}
	for n := range 1 << 8 {
		s := Hex(n, 2)
		if m, _ := Unhex(s); Hex(m, 2) != s {
			t.Errorf("P1.3: %q does not come back", s)
		}
	}
}

// shares tells whether two texts have an octet of memory in common.
func shares(a string, b string) bool {
	if a == "" || b == "" {
		return false
	}
	from, to := uintptr(unsafe.Pointer(unsafe.StringData(a))), uintptr(unsafe.Pointer(unsafe.StringData(b)))
	return from < to+uintptr(len(b)) && to < from+uintptr(len(a))
}

func TestAnswersAreNewMemory(t *testing.T) { // P1.4, P2
	for _, s := range oddTexts() {
		if len(s) == 1 { // the language keeps one text for each single octet
			continue
		}
		for name, call := range map[string]func(string) string{"Lower": Lower, "Upper": Upper, "Trim": Trim} {
			one, two := call(s), call(s)
			if len(one) > 1 && (shares(one, s) || shares(one, two)) {
				t.Errorf("P1.4: %s(%q) shares memory", name, s)
			}
		}
	}
	if shares(Hex(-1, 16), Hex(-1, 16)) {
		t.Error("P1.4: two answers of Hex share memory")
	}
}

func TestArgumentsAreNotChanged(t *testing.T) { // P1.4, P2
	for _, s := range oddTexts() {
		b := []byte(s)
		if len(b) == 0 {
			continue
		}
		given := unsafe.String(&b[0], len(b))
		low, up, mid := Lower(given), Upper(given), Trim(given)
		Name(given)
		Starts(given, given)
		Unhex(given)
		if string(b) != s {
			t.Errorf("P1.4: %q was changed", s)
		}
		for i := range b {
			b[i] = '#'
		}
		if low != Lower(s) || up != Upper(s) || mid != Trim(s) {
			t.Errorf("P1.4: an answer of %q was kept in its argument's memory", s)
		}
	}
}

func TestEveryCallAnswers(t *testing.T) { // P1
	texts := oddTexts()
	for _, s := range texts {
		if len(Lower(s)) != len(s) || len(Upper(s)) != len(s) || len(Trim(s)) > len(s) {
			t.Errorf("P1: an answer of %q has another length", s)
		}
		if Lower(Upper(s)) != Lower(s) || Upper(Lower(s)) != Upper(s) || Trim(Trim(s)) != Trim(s) {
			t.Errorf("P1: %q is not settled", s)
		}
		for _, p := range texts {
			want := len(p) <= len(s) && Lower(s[:min(len(s), len(p))]) == Lower(p)
			if Starts(s, p) != want {
				t.Errorf("P1.1: Starts(%q, %q)", s, p)
			}
		}
		if n, err := Unhex(s); err != api.OK && n != 0 {
			t.Errorf("P4: Unhex(%q) answers %d beside an error", s, n)
		}
	}
}

func TestAnswersHangOnArgumentsAlone(t *testing.T) { // P3
	tell := func() string {
		var b strings.Builder
		for _, s := range oddTexts() {
			n, err := Unhex(s)
			b.WriteString(Lower(s) + Upper(s) + Trim(s) + Hex(len(s), 8))
			b.WriteString(strconv.Itoa(n) + strconv.Itoa(int(err)) + strconv.FormatBool(Name(s)) + strconv.FormatBool(Starts(s, "a")))
		}
		return b.String()
	}
	want := tell()
	got := make([]string, 8)
	var wait sync.WaitGroup
	for i := range got {
		wait.Go(func() { got[i] = tell() })
	}
	wait.Wait()
	for _, g := range got {
		if g != want {
			t.Error("P3: the calls answer otherwise from run to run")
		}
	}
}

func TestErrorsAreNumbersOfAPI(t *testing.T) { // P5
	for s, want := range map[string]api.Errno{"": 8, "123456789": 5, "g": 33, "1": 0} {
		if _, err := Unhex(s); err != want {
			t.Errorf("P5: Unhex(%q) answers %d, not %d", s, err, want)
		}
	}
}
