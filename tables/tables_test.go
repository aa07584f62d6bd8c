package tables

import (
	"slices"
	"strings"
	"testing"
)

func TestElement(t *testing.T) { // P11.1
	kinds := elementKinds()
	for i, name := range elementNames() {
		if got := Element(name); got != kinds[i] {
			t.Errorf("P11.1: Element(%q) is %d, not %d", name, got, kinds[i])
		}
	}
	for _, name := range append(otherElements(), "", "data", "href", "onclick", "xmlns", "area", "br", "img", "wbr") {
		if got := Element(name); got != 0 {
			t.Errorf("P11.1: Element(%q) is %d, not 0", name, got)
		}
	}
}

func TestElementsCloseToTheTen(t *testing.T) { // P11.1
	for _, name := range elementNames() {
		near := append(beginnings(name), greatOnes(name)...)
		near = append(near, name[1:], name+" ", " "+name, name+"\x00", "\x00"+name, name+"\xff", "\xff"+name, name+"é", "é"+name, name+name, "/"+name, name+"/", name+">")
		for _, s := range near {
			if got := Element(s); got != 0 {
				t.Errorf("P11.1: Element(%q) is %d, not 0", s, got)
			}
		}
		for _, s := range oneOff(name) {
			if got, want := Element(s), elementKind(s); got != want {
				t.Errorf("P11.1: Element(%q) is %d, not %d", s, got, want)
			}
		}
	}
}

func TestElements(t *testing.T) { // P11.1
	got := Elements()
	if want := elementNames(); !slices.Equal(got, want) {
		t.Fatalf("P11.1: Elements is %q, not %q", got, want)
	}
	for i, name := range got {
		if kind := Element(name); kind != elementKinds()[i] {
			t.Errorf("P11.1: %q, of Elements, is of kind %d", name, kind)
		}
	}
}

func TestElementsAreAllOfThem(t *testing.T) { // P11.1
	all := Elements()
	for _, s := range append(oddTexts(), all...) {
		if (Element(s) != 0) != slices.Contains(all, s) {
			t.Errorf("P11.1: %.40q is of kind %d; Elements has it: %t", s, Element(s), slices.Contains(all, s))
		}
	}
}

func TestURLAttributes(t *testing.T) { // P11.2
	for _, name := range urlNames() {
		for _, elem := range []string{"", "a", "img", "object", "script", "title", "A", "\xff"} {
			if got := Attribute(elem, name); got != 1 {
				t.Errorf("P11.2: Attribute(%q, %q) is %d, not 1", elem, name, got)
			}
		}
	}
	if got := Attribute("a", "href"); got != 1 {
		t.Errorf("example 1: Attribute(a, href) is %d", got)
	}
}

func TestDataIsAnObjectsURL(t *testing.T) { // P11.2
	if got := Attribute("object", "data"); got != 1 {
		t.Errorf("P11.2: data of object is of kind %d, not 1", got)
	}
	others := append(oddTexts(), "embed", "objects", "xobject", "objec", "bject", "object ", " object", "object\x00", "/object", "data", "OBJECT", "Object", "objecT")
	for _, elem := range others {
		if elem == "object" {
			continue
		}
		if got := Attribute(elem, "data"); got != 0 {
			t.Errorf("P11.2: data of %.40q is of kind %d, not 0", elem, got)
		}
	}
	for _, attr := range []string{"dat", "ata", "datas", "xdata", "data ", " data", "data-", "data-x", "DATA", "Data", "datA", "data\x00", "object"} {
		if got := Attribute("object", attr); got != 0 {
			t.Errorf("P11.2: %q of object is of kind %d, not 0", attr, got)
		}
	}
}

func TestScriptAttributes(t *testing.T) { // P11.2
	behind := []string{"", "click", "load", "error", "x", "O", "CLICK", " ", "-", ":", "1", "=", "/", "\x00", "\n", "\xff", "\x80", "é", "on", "xmlns", "style", "href", "e", "ly", "tology", strings.Repeat("n", 100)}
	for i := range 256 {
		behind = append(behind, string([]byte{byte(i)}))
	}
	for _, end := range behind {
		for _, elem := range []string{"", "a", "body", "object", "script", "svg", "ON", "\xff"} {
			if got := Attribute(elem, "on"+end); got != 2 {
				t.Errorf("P11.2: Attribute(%q, %q) is %d, not 2", elem, "on"+end, got)
			}
		}
		for _, begin := range []string{"o", "On", "oN", "ON", "0n", "xon", " on", "no", "o n", "\x00on", "\u00f6n", "o\u0301n"} {
			if got, want := Attribute("a", begin+end), attributeKind("a", begin+end); got != want || got == 2 && begin != "o" {
				t.Errorf("P11.2: Attribute(a, %q) is %d, not %d", begin+end, got, want)
			}
		}
	}
	for _, attr := range []string{"o", "xon", "On", "oN", "ON", "Onclick", "no", "n"} {
		if got := Attribute("a", attr); got != 0 {
			t.Errorf("P11.2: Attribute(a, %q) is %d, not 0", attr, got)
		}
	}
}

func TestStyleAttribute(t *testing.T) { // P11.2
	for _, elem := range []string{"", "a", "style", "object", "svg", "STYLE"} {
		if got := Attribute(elem, "style"); got != 3 {
			t.Errorf("P11.2: Attribute(%q, style) is %d, not 3", elem, got)
		}
	}
	for _, attr := range append(append(greatOnes("style"), beginnings("style")[1:]...), "styles", "xstyle", "style ", "style\x00", "stylestyle", "style-x", "-style") {
		if got := Attribute("a", attr); got != 0 {
			t.Errorf("P11.2: Attribute(a, %q) is %d, not 0", attr, got)
		}
	}
}

func TestRefusedAttributes(t *testing.T) { // P11.2
	attrs := append(refusedNames(), "", "xmlns", "xmlns:x", "xmlns:xlink", "xmlns:", "xmlnsx", "xmlns ", "xmlns\x00", "xmlns\n", "xmlns\xff", "xmlnsé", "xmlnsxmlns", "xmlnsX")
	for i := range 256 {
		attrs = append(attrs, "xmlns"+string([]byte{byte(i)}))
	}
	for _, attr := range attrs {
		for _, elem := range []string{"", "a", "iframe", "img", "meta", "object", "svg", "html"} {
			if got := Attribute(elem, attr); got != 4 {
				t.Errorf("P11.2: Attribute(%q, %q) is %d, not 4", elem, attr, got)
			}
		}
	}
	for _, attr := range []string{"xmln", "xml", "x", "mlns", "xxmlns", " xmlns", "Xmlns", "xmlnS", "XMLNS", "XMLNS:x", "xmlNs", "\x00", " ", "xml:ns", "x:xmlns"} {
		if got := Attribute("svg", attr); got != 0 {
			t.Errorf("P11.2: Attribute(svg, %q) is %d, not 0", attr, got)
		}
	}
}

func TestOtherAttributes(t *testing.T) { // P11.2
	for _, attr := range otherAttributes() {
		for _, elem := range []string{"", "a", "object", "svg", "script"} {
			if got := Attribute(elem, attr); got != 0 {
				t.Errorf("P11.2: Attribute(%q, %q) is %d, not 0", elem, attr, got)
			}
		}
	}
}

func TestAttributesCloseToTheNames(t *testing.T) { // P11.2
	names := append(urlNames(), refusedNames()...)
	for _, name := range append(names, "style") {
		for _, s := range append(greatOnes(name), name+"s", name+" ", " "+name, name+"\x00", "\x00"+name, name+"-", "x"+name, name+name, name+"é", "é"+name) {
			if got := Attribute("object", s); got != 0 {
				t.Errorf("P11.2: Attribute(object, %q) is %d, not 0", s, got)
			}
		}
	}
	for _, name := range append(names, "style", "data", "on", "onclick", "xmlns", "xmlns:x") {
		for _, s := range append(oneOff(name), beginnings(name)...) {
			for _, elem := range []string{"", "a", "object"} {
				if got, want := Attribute(elem, s), attributeKind(elem, s); got != want {
					t.Errorf("P11.2: Attribute(%q, %q) is %d, not %d", elem, s, got, want)
				}
			}
		}
	}
}

func TestTheElementMattersForDataAlone(t *testing.T) { // P11.2
	elems := append(ownNames(), otherElements()...)
	for _, attr := range oddTexts() {
		want := attributeKind("", attr)
		for _, elem := range elems {
			if attr == "data" && elem == "object" {
				continue
			}
			if got := Attribute(elem, attr); got != want {
				t.Fatalf("P11.2: Attribute(%.40q, %.40q) is %d, not %d", elem, attr, got, want)
			}
		}
	}
}

func TestVoid(t *testing.T) { // P11.2
	for _, name := range voidNames() {
		if !Void(name) {
			t.Errorf("P11.2: %q is not void", name)
		}
		wrong := append(oneOff(name), beginnings(name)...)
		wrong = append(wrong, greatOnes(name)...)
		for _, s := range append(wrong, name+name, "/"+name, name+"/", name+" ", "é"+name) {
			if got, want := Void(s), voidOnes.MatchString(s); got != want {
				t.Errorf("P11.2: Void(%q) is %t", s, got)
			}
		}
		for _, s := range append(greatOnes(name), "/"+name, name+"/", name+" ", " "+name, name+"s", "x"+name, name+"\x00", name+"\xff", name+name) {
			if Void(s) {
				t.Errorf("P11.2: %q is void", s)
			}
		}
	}
	for _, name := range append(append(otherElements(), elementNames()...), "", "object", "data", "href", "keygen", "command", "basefont", "frame", "bgsound", "colgroup", "isindex", "spacer", "nextid") {
		if Void(name) {
			t.Errorf("P11.2: %q is void", name)
		}
	}
}

func TestOddTexts(t *testing.T) { // P11.1, P11.2
	for _, s := range oddTexts() {
		if got, want := Element(s), elementKind(s); got != want {
			t.Errorf("P11.1: Element(%.40q) is %d, not %d", s, got, want)
		}
		for _, elem := range []string{"", "a", "object", s} {
			if got, want := Attribute(elem, s), attributeKind(elem, s); got != want {
				t.Errorf("P11.2: Attribute(%.40q, %.40q) is %d, not %d", elem, s, got, want)
			}
		}
		if got, want := Void(s), voidOnes.MatchString(s); got != want {
			t.Errorf("P11.2: Void(%.40q) is %t", s, got)
		}
	}
}

func TestSmallTexts(t *testing.T) { // P11.1, P11.2
	for s := range smallTexts(smallPieces(), 4) {
		if got, want := Element(s), elementKind(s); got != want {
			t.Fatalf("P11.1: Element(%q) is %d, not %d", s, got, want)
		}
		if got, want := Attribute("object", s), attributeKind("object", s); got != want {
			t.Fatalf("P11.2: Attribute(object, %q) is %d, not %d", s, got, want)
		}
		if got, want := Void(s), voidOnes.MatchString(s); got != want {
			t.Fatalf("P11.2: Void(%q) is %t", s, got)
		}
	}
}

func TestTextsOfFewLetters(t *testing.T) { // P11.1, P11.2
	letters := strings.Split("abcdefghijklmnopqrstuvwxyz", "")
	for s := range smallTexts(letters, 3) {
		if got, want := Element(s), elementKind(s); got != want {
			t.Fatalf("P11.1: Element(%q) is %d, not %d", s, got, want)
		}
		if got, want := Attribute("a", s), attributeKind("a", s); got != want {
			t.Fatalf("P11.2: Attribute(a, %q) is %d, not %d", s, got, want)
		}
		if got, want := Void(s), voidOnes.MatchString(s); got != want {
			t.Fatalf("P11.2: Void(%q) is %t", s, got)
		}
	}
}
