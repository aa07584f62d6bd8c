package tables

import (
	"fmt"
	"slices"
	"strings"
	"sync"
	"testing"
)

func TestElementsAreNewMemory(t *testing.T) { // P11.3, P2
	a, b := Elements(), Elements()
	if len(a) == 0 || &a[0] == &b[0] {
		t.Fatal("P11.3: two answers of Elements are one list")
	}
	for i := range a {
		a[i] = "written"
	}
	a = append(a[:0], "a", "b")
	a = append(a[:cap(a)], "more")
	if !slices.Equal(b, elementNames()) || !slices.Equal(Elements(), elementNames()) {
		t.Errorf("P11.3: what was written into an answer of Elements is in others: %q, %q", b, Elements())
	}
	for i, name := range elementNames() {
		if got := Element(name); got != elementKinds()[i] {
			t.Errorf("P11.3: Element(%q) is %d, as an answer of Elements was written to", name, got)
		}
	}
	for _, name := range []string{"written", "a", "b", "more", ""} {
		if got := Element(name); got != 0 {
			t.Errorf("P11.3: Element(%q) is %d, as an answer of Elements was written to", name, got)
		}
	}
}

func TestNamesAreNewMemory(t *testing.T) { // P11.3, P2
	all := append(Elements(), Elements()...)
	for _, s := range specials() { // what the program keeps
		all = append(all, s.name)
	}
	for i, a := range all {
		for _, b := range all[:i] {
			if shares(a, b) {
				t.Errorf("P11.3: two answers of Elements, or one and the program, share the memory of %q", a)
			}
		}
	}
}

func TestArgumentsAreNotChanged(t *testing.T) { // P11.3, P2
	for _, s := range oddTexts() {
		octets, given := fresh(s)
		elemOctets, elem := fresh("object")
		Element(given)
		Attribute(given, given)
		Attribute(elem, given)
		Attribute(given, elem)
		Void(given)
		if string(octets) != s || string(elemOctets) != "object" {
			t.Errorf("P11.3: %.40q was changed", s)
		}
	}
}

func TestArgumentsAreNotKept(t *testing.T) { // P11.3, P2
	octets, name := fresh("script")
	if Element(name) != 3 || Void(name) || Attribute("a", name) != 0 {
		t.Error("P11.3: script is told otherwise in memory of its own")
	}
	copy(octets, "onload")
	if Element(name) != 0 || Attribute("a", name) != 2 || Element("script") != 3 || Attribute("a", "onload") != 2 {
		t.Error("P11.3: what was asked of an argument's memory was kept")
	}
	elemOctets, elem := fresh("object")
	if Attribute(elem, "data") != 1 {
		t.Error("P11.3: data of object is told otherwise in memory of its own")
	}
	copy(elemOctets, "applet")
	if Attribute(elem, "data") != 0 || Attribute("object", "data") != 1 {
		t.Error("P11.3: what was asked of an argument's memory was kept")
	}
}

func TestGreatTextsAnswer(t *testing.T) { // P1, Limits
	const count = 1 << 16
	for _, piece := range []string{"a", "title", "script", "style", "href", "srcdoc", "br", "on", "xmlns", " ", "\x00", "\xff", "é", "\xe2\x82", "object", "data"} {
		great := strings.Repeat(piece, count)
		for _, s := range []string{great, "on" + great, "xmlns" + great, "O" + great, great + "on"} {
			if Element(s) != 0 || Void(s) {
				t.Errorf("P1: %q, told often, is an element of the lists", piece)
			}
			want := attributeKind("a", s)
			if Attribute("a", s) != want || Attribute(s, s) != want {
				t.Errorf("P1: %q, told often, is not an attribute of kind %d", piece, want)
			}
			if Attribute(s, "data") != 0 || Attribute(s, "href") != 1 {
				t.Errorf("P1: attributes of %q, told often, are told otherwise", piece)
			}
		}
	}
}

func TestAnswersHangOnArgumentsAlone(t *testing.T) { // P3
	texts := oddTexts()
	tell := func() string {
		var b strings.Builder
		for _, s := range texts {
			fmt.Fprintln(&b, Element(s), Attribute(s, "data"), Attribute("object", s), Void(s))
		}
		fmt.Fprintln(&b, Elements())
		return b.String()
	}
	want := tell()
	got := make([]string, 8)
	var wait sync.WaitGroup
	for i := range got {
		wait.Go(func() { got[i] = tell() })
	}
	wait.Wait()
	for _, g := range got {
		if g != want {
			t.Error("P3: the calls answer otherwise from run to run")
		}
	}
}
