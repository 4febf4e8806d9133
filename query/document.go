package query

import (
	"slices"

	"quarry/api"
	"quarry/levels"
	"quarry/marks"
	"quarry/pointer"
)

// cuts: the colons and the commas of one array or object that are its own, not of what lies within it; both lists are new.
type cuts struct {
	colons, commas []int
}

// ownCuts: what cuts the array or object at a span of s. By itself it is a text of which that is the first level.
func ownCuts(s string, part api.Span) cuts {
	rows, _ := levels.Build(s[part.From:part.To], 1)
	all := api.Span{To: part.To - part.From}
	by := cuts{colons: levels.Colons(rows, 1, all), commas: levels.Commas(rows, 1, all)}
	shift(by.colons, part.From)
	shift(by.commas, part.From)
	return by
}

func shift(places []int, by int) {
	for i := range places {
		places[i] += by
	}
}

// ask: where a name leads from a part of the document; false, if it leads nowhere.
type ask func(name string) (api.Span, bool)

// document: a valid text, and what is known of it.
type document struct {
	s      string
	levels int // so many levels stand in rows
	rows   api.Levels
	asks   map[int]ask // what was asked before, by the place at which it begins

	// For what lies deeper than the rows: the places at which something begins, and for each opening bracket among them which one closes it. Both are made when they are asked for.
	starts, closers []int
}

// open: a document of which so many levels are put into rows.
func open(s string, most int) *document {
	d := &document{s: s, levels: most, asks: map[int]ask{}}
	if most > 0 {
		d.rows, _ = levels.Build(s, most)
	}
	return d
}

// follow: where names lead, one behind the other, from the whole on.
func (d *document) follow(names []string) api.Hit {
	part := trimmed(d.s, 0, len(d.s))
	for depth, name := range names {
		next, ok := d.known(part, depth)(name)
		if !ok {
			return api.Hit{}
		}
		part = next
	}
	return api.Hit{Found: true, Span: part}
}

// known: what there is to ask of the part at a span, ahead of which the depth is so much. Pointers that go through the same part ask the same, so that it is taken apart once.
func (d *document) known(part api.Span, depth int) ask {
	found, ok := d.asks[part.From]
	if !ok {
		found = d.learn(part, depth)
		d.asks[part.From] = found
	}
	return found
}

// learn: takes a part apart, to be asked.
func (d *document) learn(part api.Span, depth int) ask {
	switch d.s[part.From] {
	case '{':
		names, values := members(d.s, part, d.cut(part, depth))
		return d.object(names, values)
	case '[':
		return array(elements(d.s, part, d.cut(part, depth)))
	}
	return func(string) (api.Span, bool) { return api.Span{}, false }
}

// object: asks an object with these names and values. A name is read when it is first looked for, or one behind it: what stands behind all that is asked for isn't read at all.
func (d *document) object(names, values []api.Span) ask {
	numbers := map[string]int{}
	next := 0
	return func(name string) (api.Span, bool) {
		if i, ok := numbers[name]; ok {
			return values[i], true
		}
		for next < len(names) {
			i, read := next, meant(d.s, names[next])
			next++
			// Of a name that stands twice the first member counts.
			if _, twice := numbers[read]; twice {
				continue
			}
			numbers[read] = i
			if read == name {
				return values[i], true
			}
		}
		return api.Span{}, false
	}
}

// array: asks an array with these elements.
func array(list []api.Span) ask {
	return func(name string) (api.Span, bool) {
		i, ok := pointer.Place(name)
		if !ok || i >= len(list) {
			return api.Span{}, false
		}
		return list[i], true
	}
}

// cut: what cuts the array or object at a span, ahead of which the depth is so much.
func (d *document) cut(part api.Span, depth int) cuts {
	if depth >= d.levels {
		return d.walk(part)
	}
	return cuts{colons: levels.Colons(d.rows, depth+1, part), commas: levels.Commas(d.rows, depth+1, part)}
}

// walk: what cuts an array or object that lies deeper than the rows. It is gone through from part to part.
func (d *document) walk(part api.Span) cuts {
	if len(d.starts) == 0 {
		d.pair()
	}
	var by cuts
	first, _ := slices.BinarySearch(d.starts, part.From)
	for i := first + 1; i < d.closers[first]; i++ {
		switch at := d.starts[i]; d.s[at] {
		case ':':
			by.colons = append(by.colons, at)
		case ',':
			by.commas = append(by.commas, at)
		case '{', '[':
			i = d.closers[i]
		}
	}
	return by
}

// pair: finds for each opening bracket which one closes it.
func (d *document) pair() {
	d.starts = marks.Index(d.s)
	d.closers = make([]int, len(d.starts))
	var opened []int
	for i, at := range d.starts {
		switch d.s[at] {
		case '{', '[':
			opened = append(opened, i)
		case '}', ']':
			last := len(opened) - 1
			d.closers[opened[last]] = i
			opened = opened[:last]
		}
	}
}
