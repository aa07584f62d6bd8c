package literal

import (
	"strings"

	"muslin/api"
	"muslin/faults"
	"muslin/number"
	"muslin/octets"
	"muslin/utf"
	"muslin/values"
)

// inNumbers are the octets that Literal tells numbers by.
const inNumbers = " -0123456789"

// reader reads one literal: rest is what is not read yet, open the lists and records that have begun and not ended, the outermost first.
type reader struct {
	rest    string
	open    []api.Value
	deepest int // how many have been open at once
}

// Read answers the value whose literal s is, and how many octets s has. That value need not be one that may be: Literal tells any.
func Read(s string) (api.Value, int, api.Errno) {
	v, err := faults.Caught(func() api.Value { return readWhole(s) })
	if err != api.OK {
		return api.Value{}, 0, err
	}
	return v, len(s), api.OK
}

func readWhole(s string) api.Value {
	r := reader{rest: s}
	v := r.value()
	faults.Demand(r.rest == "", api.ErrSyntax)
	faults.Demand(r.deepest <= api.MaxNest, api.ErrDepth) // asked last: a text that is no literal is a fault of syntax, however deep it goes
	return v
}

// value reads a literal. It goes round for the values within and does not call itself: a text may open more lists than a stack of calls can hold.
func (r *reader) value() api.Value {
	for {
		v, whole := r.part()
		for whole && len(r.open) > 0 {
			r.put(v)
			if whole = !r.takes(comma); whole {
				v = r.end()
			}
		}
		if whole {
			return v
		}
	}
}

// part reads a value with nothing in it, which is whole; or what stands ahead of a value: a key, or what opens a list or a record.
func (r *reader) part() (api.Value, bool) {
	switch {
	case r.takes(nullWord):
		return api.Value{Kind: null}, true
	case r.takes(noWord):
		return api.Value{Kind: no}, true
	case r.takes(yesWord):
		return api.Value{Kind: yes}, true
	case r.takes(listBegins):
		return r.begin(list)
	case r.takes(recordBegins):
		return r.begin(record)
	case strings.HasPrefix(r.rest, quote):
		return r.textOrKey()
	}
	return r.number(), true
}

// begin opens a list or a record, which is whole at once if it is empty.
func (r *reader) begin(kind int) (api.Value, bool) {
	r.open = append(r.open, api.Value{Kind: kind})
	r.deepest = max(r.deepest, len(r.open))
	if !strings.HasPrefix(r.rest, ending(kind)) {
		return api.Value{}, false
	}
	return r.end(), true
}

// end reads what ends the innermost list or record, and answers that.
func (r *reader) end() api.Value {
	v := *r.innermost()
	r.must(ending(v.Kind))
	r.open = r.open[:len(r.open)-1]
	return v
}

// put lays v into the innermost list or record.
func (r *reader) put(v api.Value) {
	into := r.innermost()
	into.List = append(into.List, v)
}

// textOrKey reads a text; one with a colon behind it is the key of the value that comes next.
func (r *reader) textOrKey() (api.Value, bool) {
	s := r.text()
	if !r.takes(colon) {
		return api.Value{Kind: text, Text: s}, true
	}
	r.putKey(s)
	return api.Value{}, false
}

// putKey lays a key into the innermost record, where each value so far has one: behind a value without a key Literal tells none.
func (r *reader) putKey(key string) {
	faults.Demand(len(r.open) > 0, api.ErrSyntax)
	into := r.innermost()
	faults.Demand(into.Kind == record && len(into.Keys) == len(into.List), api.ErrSyntax)
	into.Keys = append(into.Keys, key)
}

func (r *reader) innermost() *api.Value {
	return &r.open[len(r.open)-1]
}

func ending(kind int) string {
	if kind == record {
		return recordEnds
	}
	return listEnds
}

// number reads a number that stands as Literal tells it.
func (r *reader) number() api.Value {
	told := r.rest[:len(r.rest)-len(strings.TrimLeft(r.rest, inNumbers))]
	n, err := number.Parse(strings.TrimPrefix(told, blank))
	faults.Demand(err == api.OK, api.ErrSyntax)
	v := values.Int(n)
	r.must(Literal(v)) // a blank may be there that is not due, or the other way round
	return v
}

// text reads a text that stands as Quote tells it. What Quote would tell otherwise (a 0, a letter by its number, half of a pair) is found at the end, by asking it.
func (r *reader) text() string {
	begun := r.rest
	said := made(func(put func(s string)) {
		r.must(quote)
		for !r.takes(quote) {
			put(r.char())
		}
	})
	faults.Demand(Quote(said) == begun[:len(begun)-len(r.rest)], api.ErrSyntax)
	return said
}

// char reads an octet as it is, or a character by its units, and answers its octets.
func (r *reader) char() string {
	if !strings.HasPrefix(r.rest, unitMark) {
		return r.take(1)
	}
	c := r.unit()
	if number.Within(c, firstHigh, firstLow-1) {
		c = firstPaired + (c-firstHigh)<<halfBits + r.unit() - firstLow
	}
	s, err := utf.Encode(c)
	faults.Demand(err == api.OK, api.ErrSyntax)
	return s
}

func (r *reader) unit() int {
	r.must(unitMark)
	n, err := octets.Unhex(r.take(unitDigits))
	faults.Demand(err == api.OK, api.ErrSyntax)
	return n
}

// take reads count octets.
func (r *reader) take(count int) string {
	faults.Demand(count <= len(r.rest), api.ErrSyntax)
	taken := r.rest[:count]
	r.rest = r.rest[count:]
	return taken
}

// takes reads sign, if it stands here.
func (r *reader) takes(sign string) bool {
	rest, ok := strings.CutPrefix(r.rest, sign)
	r.rest = rest
	return ok
}

// must reads sign, which has to stand here.
func (r *reader) must(sign string) {
	faults.Demand(r.takes(sign), api.ErrSyntax)
}
