package project

import (
	"slices"
	"strconv"
	"strings"

	"quarry/api"
)

// blank are the bytes that may stand around values.
const blank = " \t\n\r"

// walk goes through a document from its first byte to its last one. It does so once, while query.Members and query.Elements would look through all that lies in an array or object again for each one around it. What it goes through is known to be a document, so nothing that must stand somewhere is looked at again.
type walk struct {
	s     string
	at    int // here it stands
	stops []stop
	names []string // of the pointer to the part that is gone through

	// take is what is done with each part to which paths come: the walk stands at it, take is told by which name or place it is come to and at which nodes of the trie the paths are, and goes on behind it, by into or by skip.
	take func(name string, nodes []int)
}

// begin: a walk that stands at the whole of a document.
func begin(s string, t []api.Node) *walk {
	w := &walk{s: s, stops: stops(t)}
	w.blanks()
	return w
}

// found: the numbers of the paths that end at some nodes, rising.
func (w *walk) found(nodes []int) []int {
	var paths []int
	for _, n := range nodes {
		paths = append(paths, w.stops[n].ends...)
	}
	slices.Sort(paths)
	return paths
}

// next: to which nodes the paths come from some nodes, if each of these leads to one by the name or place of a part, or by what leads to every part.
func (w *walk) next(nodes []int, own func(stop) int) []int {
	var list []int
	for _, n := range nodes {
		for _, to := range []int{own(w.stops[n]), w.stops[n].each} {
			if to > 0 {
				list = append(list, to)
			}
		}
	}
	return list
}

// into: goes on behind the value at which it stands, and takes those of its parts to which the paths come.
func (w *walk) into(nodes []int) {
	switch w.s[w.at] {
	case '{':
		w.members(nodes)
	case '[':
		w.elements(nodes)
	default:
		w.skip()
	}
}

// members: goes through an object; of a name that stands twice the first member alone is taken.
func (w *walk) members(nodes []int) {
	taken := map[string]struct{}{}
	w.at++
	for w.goesOn('}') {
		name := w.name()
		to := w.next(nodes, func(n stop) int { return n.names[name] })
		if _, twice := taken[name]; twice || len(to) == 0 {
			w.skip()
			continue
		}
		taken[name] = struct{}{}
		w.come(name, to)
	}
}

// elements: goes through an array.
func (w *walk) elements(nodes []int) {
	w.at++
	for i := 0; w.goesOn(']'); i++ {
		to := w.next(nodes, func(n stop) int { return n.places[i] })
		if len(to) == 0 {
			w.skip()
			continue
		}
		w.come(strconv.Itoa(i), to)
	}
}

// come: takes the part at which it stands.
func (w *walk) come(name string, nodes []int) {
	w.names = append(w.names, name)
	w.take(name, nodes)
	w.names = w.names[:len(w.names)-1]
}

// goesOn: goes on to the next element or member, or else behind the bracket that closes the whole; whether there is a next one.
func (w *walk) goesOn(end byte) bool {
	w.blanks()
	switch w.s[w.at] {
	case end:
		w.at++
		return false
	case ',':
		w.at++
		w.blanks()
	}
	return true
}

// name: goes on behind a member's name and the colon, to its value; what the name means.
func (w *walk) name() string {
	from := w.at
	w.quoted()
	quoted := w.s[from:w.at]
	w.blanks()
	w.at++
	w.blanks()
	if strings.Contains(quoted, `\`) {
		return meant(quoted).Text
	}
	return quoted[1 : len(quoted)-1]
}

// skip: goes on behind the value at which it stands, whatever lies in it.
func (w *walk) skip() {
	for open := 0; ; {
		switch w.s[w.at] {
		case '{', '[':
			open++
			w.at++
		case '}', ']':
			open--
			w.at++
		case '"':
			w.quoted()
		default:
			w.word()
		}
		if open == 0 {
			return
		}
		w.between()
	}
}

// quoted: goes on behind a text between quotes.
func (w *walk) quoted() {
	for w.at++; w.s[w.at] != '"'; w.at++ {
		if w.s[w.at] == '\\' {
			w.at++
		}
	}
	w.at++
}

// word: goes on behind a number, a truth or null. If that is the whole, nothing need stand behind it.
func (w *walk) word() {
	n := strings.IndexAny(w.s[w.at:], blank+",]}")
	if n < 0 {
		n = len(w.s) - w.at
	}
	w.at += n
}

// blanks: goes on behind all blanks that stand here.
func (w *walk) blanks() { w.over(blank) }

// between: goes on behind all that stands here between two values, or a name and a value.
func (w *walk) between() { w.over(blank + ",:") }

// over: goes on behind all of some bytes that stand here. Wherever it is asked, something else stands behind them.
func (w *walk) over(bytes string) {
	for strings.IndexByte(bytes, w.s[w.at]) >= 0 {
		w.at++
	}
}
