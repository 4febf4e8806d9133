package pattern

import (
	"cmp"
	"strings"

	"quarry/api"
)

// mostHits is how many Hits an entry has at most.
const mostHits = 1 << 62

// key is what an entry is found by.
type key struct {
	route string
	name  string
}

// entry is a place that was learnt.
type entry struct {
	key   key
	place int
	hits  int
	age   int // how many entries came ahead of it
	at    int // where it stands in the heap
}

// formed: may an entry be told like that?
func formed(x api.Learnt) bool {
	return x.Place >= 0 && x.Hits >= 0 && x.Hits <= mostHits
}

// met: its name stood at a place.
func (e *entry) met(place int) {
	if place != e.place {
		e.place, e.hits = place, 1
		return
	}
	e.hits = min(e.hits+1, mostHits)
}

// goesAhead: does it go ahead of another one, if one must?
func (e *entry) goesAhead(other *entry) bool {
	return e.hits < other.hits || e.hits == other.hits && e.age < other.age
}

// moved: it stands there in the heap.
func (e *entry) moved(at int) { e.at = at }

// learnt: the entry as it is told outside.
func (e *entry) learnt() api.Learnt {
	return api.Learnt{Route: strings.Clone(e.key.route), Name: strings.Clone(e.key.name), Place: e.place, Hits: e.hits}
}

// inOrder: which of two is told ahead of the other one.
func inOrder(x, y *entry) int {
	return cmp.Or(cmp.Compare(y.hits, x.hits), cmp.Compare(x.age, y.age))
}
