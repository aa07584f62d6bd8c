package tokens

import (
	"slices"
	"strings"

	"muslin/api"
	"muslin/faults"
	"muslin/octets"
	"muslin/refs"
	"muslin/utf"
)

// Write answers the text that has the tokens l.
func Write(l ...api.Token) (string, api.Errno) {
	return faults.Caught(func() string { return written(l) })
}

// Check answers what is wrong with t, as a token that may be written.
func Check(t api.Token) api.Errno {
	switch {
	case t.Kind < startTag || t.Kind > comment:
		return api.ErrRange
	case !mayBe(t):
		return api.ErrState
	}
	return api.OK
}

func written(l []api.Token) string {
	for _, t := range l {
		err := Check(t)
		faults.Demand(err == api.OK, err)
	}
	var out strings.Builder
	put := func(s string) {
		faults.Demand(len(s) <= api.MaxOut-out.Len(), api.ErrLong)
		out.WriteString(s)
	}
	for i, t := range l {
		faults.Demand(!mixes(l[:i], t), api.ErrState)
		write(t, put)
	}
	return out.String()
}

// mixes tells whether t, behind those ahead, would be read otherwise: as one text with the last of them, or as a tag whose text has no tags.
func mixes(ahead []api.Token, t api.Token) bool {
	switch t.Kind {
	case startTag:
		return hasRawText(t.Name)
	case text:
		return len(ahead) > 0 && ahead[len(ahead)-1].Kind == text
	}
	return false
}

// write puts the octets of t.
func write(t api.Token, put func(s string)) {
	switch t.Kind {
	case startTag:
		put(tagBegins + t.Name)
		for _, a := range t.Attrs {
			put(" " + a.Name + equals + doubleQuote + refs.Escape(a.Value) + doubleQuote)
		}
		if t.Closed {
			put(closing)
		}
		put(tagEnds)
	case endTag:
		put(endTagBegins + t.Name + tagEnds)
	case text:
		put(refs.Escape(t.Text))
	case comment:
		put(commentBegins + t.Text + commentEnds)
	}
}

// mayBe tells whether t, whose kind is one, has what tokens of that kind may have, and nothing else.
func mayBe(t api.Token) bool {
	isTag := t.Text == "" && isTagName(t.Name)
	isOther := t.Name == ""
	bare := len(t.Attrs) == 0 && !t.Closed
	switch t.Kind {
	case startTag:
		return isTag && !slices.ContainsFunc(t.Attrs, func(a api.Attr) bool { return !isAttribute(a) })
	case endTag:
		return isTag && bare
	case text:
		return isOther && bare && t.Text != "" && isRepaired(t.Text)
	}
	return isOther && bare && isCommentText(t.Text)
}

func isTagName(s string) bool {
	return octets.Name(s) && hasOnly(s, isSmall)
}

// isAttribute tells whether a may be written. Its value may be empty: it comes back so.
func isAttribute(a api.Attr) bool {
	return a.Name != "" && hasOnly(a.Name, func(c byte) bool { return isSmall(c) || c == '-' }) && isRepaired(a.Value)
}

// isCommentText tells whether s ends nowhere in a comment, neither as it is read here nor as pages are read.
func isCommentText(s string) bool {
	return !strings.Contains(s, commentEnds) && !strings.HasSuffix(s, "-") && !strings.HasPrefix(s, ">") && !strings.HasPrefix(s, "-")
}

func isRepaired(s string) bool {
	return utf.Repair(s) == s
}

// isSmall tells whether c is a small letter or a digit.
func isSmall(c byte) bool {
	return 'a' <= c && c <= 'z' || '0' <= c && c <= '9'
}

// hasOnly tells whether each octet of s is wanted.
func hasOnly(s string, wanted func(c byte) bool) bool {
	for i := range len(s) {
		if !wanted(s[i]) {
			return false
		}
	}
	return true
}
