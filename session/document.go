package session

import (
	"slices"
	"strings"

	"quarry/api"
	"quarry/levels"
	"quarry/texts"
)

// document: a valid text, and what is known of it.
type document struct {
	s     string
	rows  api.Levels
	parts map[int]*part // what was taken apart, by the place at which it begins
}

// open: a document of which so many levels are put into rows.
func open(s string, most int) *document {
	d := &document{s: s, parts: map[int]*part{}}
	if most > 0 {
		d.rows, _ = levels.Build(s, most)
	}
	return d
}

// part: the value at a span; what cuts it is of that level. Ways that go through the same part ask the same, so that it is taken apart once.
func (d *document) part(at api.Span, level int) *part {
	p, ok := d.parts[at.From]
	if !ok {
		p = &part{s: d.s, kind: d.s[at.From]}
		if p.kind == '{' || p.kind == '[' {
			p.colons = levels.Colons(d.rows, level, at)
			p.ends = slices.Concat([]int{at.From}, levels.Commas(d.rows, level, at), []int{at.To - 1})
		}
		d.parts[at.From] = p
	}
	return p
}

// part is a value in a document.
type part struct {
	s      string // the document
	kind   byte   // the value's first byte
	colons []int  // an object's own, not of what lies within it
	ends   []int  // what cuts an array or object: its first bracket, its own commas, its last bracket

	compared int            // so many names were held against one that was asked for
	first    map[string]int // the names, each with the place of the first member that has it; made when it is asked for
}

// elements: how many an array has.
func (p *part) elements() int {
	// What stands ahead of the first comma, or of the last bracket, is an element, unless there are none.
	if first := p.value(0); first.From == first.To {
		return 0
	}
	return len(p.ends) - 1
}

// value: where the element or the member's value at a place stands.
func (p *part) value(place int) api.Span {
	from := p.ends[place]
	if p.kind == '{' {
		from = p.colons[place]
	}
	return trimmed(p.s, from+1, p.ends[place+1])
}

// name: what stands between the quotes of the member's name at a place.
func (p *part) name(place int) string {
	at := trimmed(p.s, p.ends[place]+1, p.colons[place])
	return p.s[at.From+1 : at.To-1]
}

// holds: whether the member at a place has a name and none ahead has it, since of several ones the first counts.
func (p *part) holds(place int, name string) bool {
	if place >= len(p.colons) || !means(p.name(place), name) {
		return false
	}
	// To hold the names against one is less than to read them all, but not where it is done again and again.
	const often = 8
	if p.first != nil || p.compared > often*len(p.colons) {
		return p.places()[name] == place
	}
	p.compared += place
	for ahead := range place {
		if means(p.name(ahead), name) {
			return false
		}
	}
	return true
}

// places: the names, each with the place of the first member that has it.
func (p *part) places() map[string]int {
	if p.first == nil {
		p.first = make(map[string]int, len(p.colons))
		for place := range slices.Backward(p.colons) {
			// In a document no name is wrong.
			name, _ := texts.Unescape(p.name(place))
			p.first[name] = place
		}
	}
	return p.first
}

// means: whether what stands between quotes comes to a name.
func means(raw, name string) bool {
	if strings.Contains(raw, `\`) {
		return texts.Same(raw, name)
	}
	return raw == name
}

// trimmed: a span of s without the blanks around.
func trimmed(s string, from, to int) api.Span {
	const blanks = " \t\n\r"
	from = to - len(strings.TrimLeft(s[from:to], blanks))
	return api.Span{From: from, To: from + len(strings.TrimRight(s[from:to], blanks))}
}
