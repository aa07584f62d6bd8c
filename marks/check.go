package marks

import (
	"math"

	"muslin/api"
	"muslin/number"
)

// Check answers what is wrong with s, as a state that may be.
func Check(s api.State) api.Errno {
	switch {
	case !number.Within(s.Kind, data, script):
		return api.ErrRange
	case !mayBe(s):
		return api.ErrState
	}
	return api.OK
}

// mayBe tells whether s, whose kind is one, has nothing in the fields that it does not use, and not too much in the others.
func mayBe(s api.State) bool {
	used, most := uses(s), greatest()
	for field, size := range sizes(s) {
		if !used[field] && size != 0 || !number.Within(size, 0, most[field]) {
			return false
		}
	}
	return s.Kind != value || s.Delim == doubleQuote || s.Delim == singleQuote
}

// sizes answers how much each field of s has: of a text how many octets, of a number itself. Just what is zero has none.
func sizes(s api.State) [fields]int {
	return [fields]int{
		kindField:  s.Kind,
		elemField:  len(s.Elem),
		attrField:  len(s.Attr),
		delimField: int(s.Delim),
		pendField:  len(s.Pend),
		refField:   len(s.Ref),
		partField:  s.Part,
		wordField:  len(s.Word),
	}
}

// greatest answers the greatest size that each field may have where it is used.
func greatest() [fields]int {
	return [fields]int{
		kindField:  script,
		elemField:  len(endTagSign) + api.MaxName,
		attrField:  api.MaxName,
		delimField: math.MaxUint8,
		pendField:  len("</") + api.MaxName,
		refField:   api.MaxWord,
		partField:  15, // the last one of a script
		wordField:  api.MaxWord,
	}
}

// uses tells of each field whether s uses it. It asks the attribute, too: not every one has parts.
func uses(s api.State) [fields]bool {
	within := func(from int, to int) bool { return number.Within(s.Kind, from, to) }
	inValue := within(value, unquoted)
	hasParts := within(style, script) || inValue && number.Within(Kind(s), address, styling)
	return [fields]bool{
		kindField:  true,
		elemField:  within(startTagName, slash) || within(refsText, script),
		attrField:  within(attributeName, unquoted),
		delimField: s.Kind == value,
		pendField:  within(comment, script),
		refField:   s.Kind == data || inValue || s.Kind == refsText,
		partField:  hasParts,
		wordField:  hasParts,
	}
}
