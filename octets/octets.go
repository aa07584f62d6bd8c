// Package octets is layer 1, what texts are made of: see shared/doc/01-octets.md.
package octets

import (
	"strings"

	"muslin/api"
)

const (
	digits      = "0123456789abcdef"
	digitBits   = 4
	mostTold    = 64 / digitBits // a number of 64 bits has no more digits than these
	mostRead    = 8              // so that what is read is never below 0
	caseApart   = 'a' - 'A'
	lowestDigit = 1<<digitBits - 1
)

// Blank tells whether c is one of the five blanks.
func Blank(c byte) bool {
	switch c {
	case 9, 10, 12, 13, 32:
		return true
	}
	return false
}

// Letter tells whether c is one of a to z and A to Z.
func Letter(c byte) bool {
	return within(c, 'a', 'z') || within(c, 'A', 'Z')
}

// Lower answers s with its letters small; octets that are no letters stay, those of other alphabets too.
func Lower(s string) string {
	return made(len(s), func(i int) byte { return small(s[i]) })
}

// Upper answers s with its letters great; octets that are no letters stay, those of other alphabets too.
func Upper(s string) string {
	return made(len(s), func(i int) byte { return great(s[i]) })
}

// Name tells whether s is a name: a letter or _, then letters, digits, _, of at most api.MaxName octets.
func Name(s string) bool {
	if s == "" || len(s) > api.MaxName || within(s[0], '0', '9') {
		return false
	}
	return none(len(s), func(i int) bool { return !inName(s[i]) })
}

// Starts tells whether s begins with p, small and great letters being one.
func Starts(s string, p string) bool {
	if len(p) > len(s) {
		return false
	}
	return none(len(p), func(i int) bool { return small(s[i]) != small(p[i]) })
}

// Trim answers s without the blanks at both of its ends.
func Trim(s string) string {
	ahead := first(len(s), func(i int) bool { return !Blank(s[i]) })
	rest := s[ahead:]
	behind := first(len(rest), func(i int) bool { return !Blank(rest[len(rest)-1-i]) })
	return strings.Clone(rest[:len(rest)-behind]) // a piece would share the argument's memory
}

// Hex answers the lowest size digits of base 16 of n, in two's complement; a size below 0 counts as 0, one above 16 as 16.
func Hex(n int, size int) string {
	size = min(max(size, 0), mostTold)
	return made(size, func(i int) byte {
		shift := digitBits * uint(size-1-i)
		return digits[uint64(n)>>shift&lowestDigit]
	})
}

// Unhex answers the number whose digits of base 16 s is: 1 to 8 of them, small or great.
func Unhex(s string) (int, api.Errno) {
	switch {
	case s == "":
		return 0, api.ErrShort
	case len(s) > mostRead:
		return 0, api.ErrLong
	case !none(len(s), func(i int) bool { return digitValue(s[i]) < 0 }):
		return 0, api.ErrSyntax
	}
	n := 0
	for i := range len(s) {
		n = n<<digitBits | digitValue(s[i])
	}
	return n, api.OK
}

// first answers the first of the places 0 to below count that is wanted, or count.
func first(count int, wanted func(i int) bool) int {
	for i := range count {
		if wanted(i) {
			return i
		}
	}
	return count
}

// none tells whether none of the places 0 to below count is wanted.
func none(count int, wanted func(i int) bool) bool {
	return first(count, wanted) == count
}

// made answers a new text of count octets, each as at tells it of its place.
func made(count int, at func(i int) byte) string {
	out := make([]byte, count)
	for i := range out {
		out[i] = at(i)
	}
	return string(out)
}

func within(c byte, from byte, to byte) bool {
	return from <= c && c <= to
}

func inName(c byte) bool {
	return Letter(c) || within(c, '0', '9') || c == '_'
}

func small(c byte) byte {
	if within(c, 'A', 'Z') {
		return c + caseApart
	}
	return c
}

func great(c byte) byte {
	if within(c, 'a', 'z') {
		return c - caseApart
	}
	return c
}

// digitValue answers what the digit c of base 16 counts, -1 of another octet.
func digitValue(c byte) int {
	return strings.IndexByte(digits, small(c))
}
