package number

import (
	"math"
	"math/big"
	"strconv"
	"strings"
	"sync"
	"testing"
	"unsafe"

	"muslin/api"
)

const (
	greatestDigits = "9223372036854775807"
	leastDigits    = "-9223372036854775808"
)

// manyNumbers are numbers at the edges, and some between them.
func manyNumbers() []int {
	all := []int{0, math.MaxInt, math.MinInt, math.MaxInt32, math.MinInt32, math.MaxUint32, 271, -271}
	power := 1
	for range 19 {
		for _, n := range []int{power - 1, power, power + 1, power * 9, power*9 + 7} {
			all = append(all, n, -n)
		}
		power *= 10
	}
	for shift := range 63 {
		n := 1 << shift
		all = append(all, n, -n, n-1, 1-n, n+1, -n-1)
	}
	for i := range 40 {
		all = append(all, math.MaxInt-i, math.MinInt+i, math.MaxInt/(i+1), math.MinInt/(i+1))
	}
	return all
}

// sum is worked out with numbers of any size, which the program does not use.
func sum(a int, b int) (int, api.Errno) {
	whole := new(big.Int).Add(big.NewInt(int64(a)), big.NewInt(int64(b)))
	if !whole.IsInt64() {
		return 0, api.ErrRange
	}
	return int(whole.Int64()), api.OK
}

// oddTexts are texts for the promises that hold of any text.
func oddTexts() []string {
	all := []string{
		"", "-", "--", "---", "0", "-0", "00", "-00", "0-", "1-", "+", "+0", "+1", "-+1", "+-1", " ", " 1", "1 ", "1 2", "- 1", "-1 ", "\t1", "1\n",
		"--1", "1-1", "-1-", "01", "-01", "001", "0x1", "1e3", "1.0", "1_0", "1,0", "a", "1a", "a1", "-a", "-1a", "1a1", "\x00", "1\x00", "\xff", "é", "\u0661", "\uff11", "\u2212" + "1",
		greatestDigits, leastDigits, "9223372036854775808", "-9223372036854775809", "-9223372036854775807", "9223372036854775806",
		"9999999999999999999", "-9999999999999999999", "1000000000000000000", "10000000000000000000", "-10000000000000000000",
		"18446744073709551615", "18446744073709551616", "18446744073709551617", "-18446744073709551615", "-18446744073709551616", "-18446744073709551617",
		"36893488147419103233", "184467440737095516161", "340282366920938463463374607431768211457",
		strings.Repeat("9", 1<<12), "-" + strings.Repeat("1", 1<<12), strings.Repeat("0", 1<<12), strings.Repeat("9", 1<<12) + "x", strings.Repeat("-", 1<<12),
	}
	for c := range 256 {
		one := string([]byte{byte(c)})
		all = append(all, one, one+"7", "7"+one, "7"+one+"7", "-"+one, "-7"+one, one+greatestDigits, greatestDigits+one)
	}
	return all
}

// want is what Parse answers of s, by the chapter's words and the library's numbers of any size.
func want(s string) (int, api.Errno) {
	if s == "" || s == "-" {
		return 0, api.ErrShort
	}
	digits := s
	if s[0] == '-' {
		digits = s[1:]
	}
	if strings.Trim(digits, "0123456789") != "" || digits[0] == '0' && len(s) > 1 {
		return 0, api.ErrSyntax
	}
	whole, ok := new(big.Int).SetString(s, 10)
	if !ok || !whole.IsInt64() {
		return 0, api.ErrRange
	}
	return int(whole.Int64()), api.OK
}

func TestPrint(t *testing.T) { // P3.1
	for _, c := range []struct {
		n    int
		want string
	}{
		{-12, "-12"},
		{0, "0"},
		{1, "1"},
		{-1, "-1"},
		{9, "9"},
		{10, "10"},
		{-10, "-10"},
		{99, "99"},
		{100, "100"},
		{-100, "-100"},
		{1020, "1020"},
		{1234567890, "1234567890"},
		{-1234567890, "-1234567890"},
		{1000000000000000000, "1000000000000000000"},
		{999999999999999999, "999999999999999999"},
		{-999999999999999999, "-999999999999999999"},
		{math.MaxInt, greatestDigits},
		{math.MaxInt - 1, "9223372036854775806"},
		{math.MinInt, leastDigits},
		{math.MinInt + 1, "-9223372036854775807"},
	} {
		if got := Print(c.n); got != c.want {
			t.Errorf("P3.1: Print(%d) is %q, not %q", c.n, got, c.want)
		}
	}
}

func TestPrintOfManyNumbers(t *testing.T) { // P3.1
	look := func(n int) {
		if got, want := Print(n), big.NewInt(int64(n)).String(); got != want {
			t.Fatalf("P3.1: Print(%d) is %q, not %q", n, got, want)
		}
	}
	for _, n := range manyNumbers() {
		look(n)
	}
	for n := -20000; n <= 20000; n++ {
		look(n)
	}
}

func TestParse(t *testing.T) { // P3.1, P4
	for _, c := range []struct {
		s    string
		want int
		err  api.Errno
	}{
		{"", 0, api.ErrShort},
		{"-", 0, api.ErrShort},
		{"0", 0, api.OK},
		{"-0", 0, api.ErrSyntax},
		{"00", 0, api.ErrSyntax},
		{"-00", 0, api.ErrSyntax},
		{"01", 0, api.ErrSyntax},
		{"-01", 0, api.ErrSyntax},
		{"0000000000000000000000", 0, api.ErrSyntax},
		{"1", 1, api.OK},
		{"-1", -1, api.OK},
		{"9", 9, api.OK},
		{"10", 10, api.OK},
		{"-10", -10, api.OK},
		{"-12", -12, api.OK},
		{"1020", 1020, api.OK},
		{"+1", 0, api.ErrSyntax},
		{"+", 0, api.ErrSyntax},
		{"-+1", 0, api.ErrSyntax},
		{"+-1", 0, api.ErrSyntax},
		{"--", 0, api.ErrSyntax},
		{"--1", 0, api.ErrSyntax},
		{"1-", 0, api.ErrSyntax},
		{"1-1", 0, api.ErrSyntax},
		{" ", 0, api.ErrSyntax},
		{" 1", 0, api.ErrSyntax},
		{"1 ", 0, api.ErrSyntax},
		{"1 1", 0, api.ErrSyntax},
		{"- 1", 0, api.ErrSyntax},
		{"- ", 0, api.ErrSyntax},
		{"1\n", 0, api.ErrSyntax},
		{"a1", 0, api.ErrSyntax},
		{"1a1", 0, api.ErrSyntax},
		{"1a", 0, api.ErrSyntax},
		{"-a", 0, api.ErrSyntax},
		{"/", 0, api.ErrSyntax},
		{":", 0, api.ErrSyntax},
		{"1/", 0, api.ErrSyntax},
		{"1:", 0, api.ErrSyntax},
		{"0x10", 0, api.ErrSyntax},
		{"1_000", 0, api.ErrSyntax},
		{"1.0", 0, api.ErrSyntax},
		{"1e3", 0, api.ErrSyntax},
		{"\x00", 0, api.ErrSyntax},
		{"1\x00", 0, api.ErrSyntax},
		{"\xff", 0, api.ErrSyntax},
		{"\u0661", 0, api.ErrSyntax},
		{"\u22121", 0, api.ErrSyntax},
	} {
		if got, err := Parse(c.s); got != c.want || err != c.err {
			t.Errorf("P3.1: Parse(%q) is %d, %d, not %d, %d", c.s, got, err, c.want, c.err)
		}
	}
}

func TestParseAtTheEnds(t *testing.T) { // P3.1, P4
	for _, c := range []struct {
		s    string
		want int
		err  api.Errno
	}{
		{"999999999999999999", 999999999999999999, api.OK},
		{"-999999999999999999", -999999999999999999, api.OK},
		{"1000000000000000000", 1000000000000000000, api.OK},
		{"9223372036854775799", math.MaxInt - 8, api.OK},
		{"9223372036854775806", math.MaxInt - 1, api.OK},
		{greatestDigits, math.MaxInt, api.OK},
		{"9223372036854775808", 0, api.ErrRange},
		{"9223372036854775809", 0, api.ErrRange},
		{"9223372036854775810", 0, api.ErrRange},
		{"-9223372036854775807", math.MinInt + 1, api.OK},
		{leastDigits, math.MinInt, api.OK},
		{"-9223372036854775809", 0, api.ErrRange},
		{"-9223372036854775810", 0, api.ErrRange},
		{"9999999999999999999", 0, api.ErrRange},
		{"-9999999999999999999", 0, api.ErrRange},
		{"10000000000000000000", 0, api.ErrRange},
		{"-10000000000000000000", 0, api.ErrRange},
		{"18446744073709551615", 0, api.ErrRange},
		{"18446744073709551616", 0, api.ErrRange},
		{"18446744073709551617", 0, api.ErrRange},
		{"-18446744073709551617", 0, api.ErrRange},
		{"99999999999999999999", 0, api.ErrRange},
		{"184467440737095516161", 0, api.ErrRange},
		{"340282366920938463463374607431768211457", 0, api.ErrRange},
		{strings.Repeat("1", 1<<16), 0, api.ErrRange},
		{"-" + strings.Repeat("1", 1<<16), 0, api.ErrRange},
		{"1" + strings.Repeat("0", 64), 0, api.ErrRange},
		{"-1" + strings.Repeat("0", 64), 0, api.ErrRange},
	} {
		if got, err := Parse(c.s); got != c.want || err != c.err {
			t.Errorf("P3.1: Parse(%q) is %d, %d, not %d, %d", c.s, got, err, c.want, c.err)
		}
	}
}

func TestParseAnswersTheFirstError(t *testing.T) { // P3.1, P4
	long := strings.Repeat("9", 1<<12)
	for _, s := range []string{
		"9223372036854775808x", "x9223372036854775808", "92233720368547758x08", "--9223372036854775809", "-9223372036854775809-", "+9223372036854775808",
		"09223372036854775808", "-09223372036854775809", "-0" + long, "0" + long, long + "x", long + " ", " " + long, "x" + long, "-" + long + "\x00", long + "-" + long,
		strings.Repeat("0", 20), "-" + strings.Repeat("0", 20), "0" + greatestDigits, "-0" + greatestDigits, strings.Repeat("0", 40) + "1", "0x", "00x", "0-",
	} {
		if got, err := Parse(s); got != 0 || err != api.ErrSyntax {
			t.Errorf("P4: Parse(%.40q) is %d, %d, not 0, %d", s, got, err, api.ErrSyntax)
		}
	}
}

func TestParseOfEveryOctet(t *testing.T) { // P3.1, P4, P5
	for c := range 256 {
		one := string([]byte{byte(c)})
		for _, s := range []string{one, "-" + one, one + "7", "7" + one, "70" + one + "07", "-7" + one, "-7" + one + "7", one + one} {
			n, wantErr := want(s)
			if got, err := Parse(s); got != n || err != wantErr {
				t.Errorf("P3.1: Parse(%q) is %d, %d, not %d, %d", s, got, err, n, wantErr)
			}
		}
	}
}

func TestParseOfDigitsByCount(t *testing.T) { // P3.1
	for count := 1; count <= 70; count++ {
		for d := '1'; d <= '9'; d++ {
			for _, digits := range []string{strings.Repeat(string(d), count), string(d) + strings.Repeat("0", count-1)} {
				for _, s := range []string{digits, "-" + digits} {
					n, wantErr := want(s)
					if got, err := Parse(s); got != n || err != wantErr {
						t.Errorf("P3.1: Parse(%q) is %d, %d, not %d, %d", s, got, err, n, wantErr)
					}
				}
			}
		}
	}
}

func TestParseAroundThePowers(t *testing.T) { // P3.1
	for shift := range 140 {
		for apart := int64(-12); apart <= 12; apart++ {
			whole := new(big.Int).Lsh(big.NewInt(1), uint(shift))
			whole.Add(whole, big.NewInt(apart))
			for _, s := range []string{whole.String(), new(big.Int).Neg(whole).String()} {
				n, wantErr := want(s)
				if got, err := Parse(s); got != n || err != wantErr {
					t.Errorf("P3.1: Parse(%q) is %d, %d, not %d, %d", s, got, err, n, wantErr)
				}
			}
		}
	}
}

func TestCompare(t *testing.T) { // P3.2
	for _, c := range []struct{ a, b, want int }{
		{0, 0, 0},
		{1, 1, 0},
		{-1, -1, 0},
		{0, 1, -1},
		{1, 0, 1},
		{-1, 0, -1},
		{0, -1, 1},
		{-1, 1, -1},
		{2, 10, -1},
		{-2, -10, 1},
		{7, 1000, -1},
		{math.MaxInt, math.MaxInt, 0},
		{math.MinInt, math.MinInt, 0},
		{math.MinInt, math.MaxInt, -1},
		{math.MaxInt, math.MinInt, 1},
		{math.MaxInt, -1, 1},
		{-1, math.MaxInt, -1},
		{math.MinInt, 1, -1},
		{1, math.MinInt, 1},
		{math.MinInt, 0, -1},
		{0, math.MinInt, 1},
		{math.MaxInt - 1, math.MaxInt, -1},
		{math.MinInt + 1, math.MinInt, 1},
		{1 << 32, 0, 1},
		{0, 1 << 32, -1},
	} {
		if got := Compare(c.a, c.b); got != c.want {
			t.Errorf("P3.2: Compare(%d, %d) is %d, not %d", c.a, c.b, got, c.want)
		}
	}
}

func TestAdd(t *testing.T) { // P3.2, P4
	for _, c := range []struct {
		a, b, want int
		err        api.Errno
	}{
		{0, 0, 0, api.OK},
		{1, 2, 3, api.OK},
		{-1, 1, 0, api.OK},
		{-1, -2, -3, api.OK},
		{5, -12, -7, api.OK},
		{math.MaxInt, 0, math.MaxInt, api.OK},
		{0, math.MaxInt, math.MaxInt, api.OK},
		{math.MinInt, 0, math.MinInt, api.OK},
		{0, math.MinInt, math.MinInt, api.OK},
		{math.MaxInt - 1, 1, math.MaxInt, api.OK},
		{1, math.MaxInt - 1, math.MaxInt, api.OK},
		{math.MinInt + 1, -1, math.MinInt, api.OK},
		{-1, math.MinInt + 1, math.MinInt, api.OK},
		{math.MaxInt, math.MinInt, -1, api.OK},
		{math.MinInt, math.MaxInt, -1, api.OK},
		{1 << 62, 1<<62 - 1, math.MaxInt, api.OK},
		{-1 << 62, -1 << 62, math.MinInt, api.OK},
		{1 << 62, 1 << 62, 0, api.ErrRange},
		{-1 << 62, -1<<62 - 1, 0, api.ErrRange},
		{math.MaxInt, 1, 0, api.ErrRange},
		{1, math.MaxInt, 0, api.ErrRange},
		{math.MinInt, -1, 0, api.ErrRange},
		{-1, math.MinInt, 0, api.ErrRange},
		{math.MaxInt, math.MaxInt, 0, api.ErrRange},
		{math.MinInt, math.MinInt, 0, api.ErrRange},
		{math.MaxInt, -1, math.MaxInt - 1, api.OK},
		{math.MinInt, 1, math.MinInt + 1, api.OK},
	} {
		if got, err := Add(c.a, c.b); got != c.want || err != c.err {
			t.Errorf("P3.2: Add(%d, %d) is %d, %d, not %d, %d", c.a, c.b, got, err, c.want, c.err)
		}
	}
}

func TestTwoNumbers(t *testing.T) { // P3.2, P4
	all := manyNumbers()
	for _, a := range all {
		for _, b := range all {
			if got, want := Compare(a, b), big.NewInt(int64(a)).Cmp(big.NewInt(int64(b))); got != want {
				t.Fatalf("P3.2: Compare(%d, %d) is %d, not %d", a, b, got, want)
			}
			n, wantErr := sum(a, b)
			if got, err := Add(a, b); got != n || err != wantErr {
				t.Fatalf("P3.2: Add(%d, %d) is %d, %d, not %d, %d", a, b, got, err, n, wantErr)
			}
		}
	}
}

func TestWithin(t *testing.T) { // P3.2
	for _, c := range []struct {
		n, from, to int
		want        bool
	}{
		{0, 0, 0, true},
		{1, 0, 0, false},
		{-1, 0, 0, false},
		{3, 3, 7, true},
		{7, 3, 7, true},
		{5, 3, 7, true},
		{2, 3, 7, false},
		{8, 3, 7, false},
		{-5, -7, -3, true},
		{-7, -7, -3, true},
		{-3, -7, -3, true},
		{-8, -7, -3, false},
		{-2, -7, -3, false},
		{0, -1, 1, true},
		{5, 7, 3, false},
		{7, 7, 3, false},
		{3, 7, 3, false},
		{2, 7, 3, false},
		{8, 7, 3, false},
		{0, 1, -1, false},
		{math.MaxInt, math.MinInt, math.MaxInt, true},
		{math.MinInt, math.MinInt, math.MaxInt, true},
		{0, math.MinInt, math.MaxInt, true},
		{0, math.MaxInt, math.MinInt, false},
		{math.MaxInt, math.MaxInt, math.MinInt, false},
		{math.MinInt, math.MaxInt, math.MinInt, false},
		{math.MaxInt, math.MaxInt, math.MaxInt, true},
		{math.MinInt, math.MinInt, math.MinInt, true},
		{math.MaxInt - 1, math.MaxInt, math.MaxInt, false},
		{math.MinInt + 1, math.MinInt, math.MinInt, false},
		{math.MinInt, 0, math.MaxInt, false},
		{math.MaxInt, math.MinInt, 0, false},
		{-1, 0, math.MaxInt, false},
		{1, math.MinInt, 0, false},
	} {
		if got := Within(c.n, c.from, c.to); got != c.want {
			t.Errorf("P3.2: Within(%d, %d, %d) is %v", c.n, c.from, c.to, got)
		}
	}
}

func TestWithinOfSmallNumbers(t *testing.T) { // P3.2
	for from := -6; from <= 6; from++ {
		for to := -6; to <= 6; to++ {
			in := make(map[int]int)
			for n := from; n <= to; n++ {
				in[n] = 1
			}
			for n := -8; n <= 8; n++ {
				if got := Within(n, from, to); got != (in[n] == 1) {
					t.Errorf("P3.2: Within(%d, %d, %d) is %v", n, from, to, got)
				}
			}
		}
	}
}

func TestNumbersComeBack(t *testing.T) { // P3.3
	back := func(n int) {
		if got, err := Parse(Print(n)); got != n || err != api.OK {
			t.Fatalf("P3.3: %d comes back as %d, %d", n, got, err)
		}
	}
	for _, n := range manyNumbers() {
		back(n)
	}
	for n := -20000; n <= 20000; n++ {
		back(n)
		back(n * 0x123456789abc)
	}
}

func TestTextsComeBack(t *testing.T) { // P3.3
	for _, s := range oddTexts() {
		if n, err := Parse(s); err == api.OK && Print(n) != s {
			t.Errorf("P3.3: %q comes back as %q", s, Print(n))
		}
	}
}

// shares tells whether two texts have an octet of memory in common.
func shares(a string, b string) bool {
	if a == "" || b == "" {
		return false
	}
	from, to := uintptr(unsafe.Pointer(unsafe.StringData(a))), uintptr(unsafe.Pointer(unsafe.StringData(b)))
	return from < to+uintptr(len(b)) && to < from+uintptr(len(a))
}

func TestAnswersAreNewMemory(t *testing.T) { // P3.4, P2
	for _, n := range manyNumbers() {
		one, two := Print(n), Print(n)
		if len(one) > 1 && shares(one, two) { // the language keeps one text for each single octet
			t.Errorf("P3.4: two answers of Print(%d) share memory", n)
		}
	}
	first := Print(math.MinInt)
	for n := range 1000 {
		Print(-n)
	}
	if first != leastDigits {
		t.Errorf("P3.4: an answer of Print has become %q", first)
	}
}

func TestArgumentsAreNotChanged(t *testing.T) { // P3.4, P2
	for _, s := range oddTexts() {
		b := []byte(s)
		if len(b) == 0 {
			continue
		}
		given := unsafe.String(&b[0], len(b))
		n, err := Parse(given)
		if string(b) != s {
			t.Errorf("P3.4: %q was changed", s)
		}
		for i := range b {
			b[i] = '1'
		}
		if again, againErr := Parse(s); again != n || againErr != err {
			t.Errorf("P3.4: %q was kept", s)
		}
	}
}

func TestEveryCallAnswers(t *testing.T) { // P1, P4, Limits
	for _, s := range oddTexts() {
		n, wantErr := want(s)
		if got, err := Parse(s); got != n || err != wantErr {
			t.Errorf("P3.1: Parse(%.40q) is %d, %d, not %d, %d", s, got, err, n, wantErr)
		}
	}
	for s, want := range map[string]api.Errno{"7": api.ErrRange, "0": api.ErrSyntax, "-": api.ErrSyntax, "x": api.ErrSyntax} {
		if got, err := Parse(strings.Repeat(s, 1<<24)); got != 0 || err != want {
			t.Errorf("P1: Parse of many %q is %d, %d", s, got, err)
		}
	}
}

func TestAnswersHangOnArgumentsAlone(t *testing.T) { // P3
	tell := func() string {
		var b strings.Builder
		for _, s := range oddTexts() {
			n, err := Parse(s)
			b.WriteString(Print(n) + "," + strconv.Itoa(int(err)) + ";")
		}
		for i, n := range manyNumbers() {
			whole, err := Add(n, i)
			b.WriteString(Print(n) + "," + Print(whole) + "," + strconv.Itoa(int(err)) + "," + strconv.Itoa(Compare(n, i)) + strconv.FormatBool(Within(n, -i, i)) + ";")
		}
		return b.String()
	}
	want := tell()
	got := make([]string, 8)
	var wait sync.WaitGroup
	for i := range got {
		wait.Go(func() { got[i] = tell() })
	}
	wait.Wait()
	for _, g := range got {
		if g != want {
			t.Error("P3: the calls answer otherwise from run to run")
		}
	}
}

func TestErrorsAreNumbersOfAPI(t *testing.T) { // P4, P5
	for s, want := range map[string]api.Errno{"": 8, "-": 8, "x": 33, "9223372036854775808": 4, "1": 0} {
		if _, err := Parse(s); err != want {
			t.Errorf("P5: Parse(%q) answers %d, not %d", s, err, want)
		}
	}
	if n, err := Add(math.MaxInt, 1); n != 0 || err != 4 {
		t.Errorf("P5: Add beyond the greatest answers %d, %d", n, err)
	}
}
