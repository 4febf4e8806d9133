package session

import (
	"strings"

	"quarry/pointer"
)

// step is one name of a pointer, and the route to the part that is asked for it: the pointer as far as it goes ahead of that name.
type step struct{ route, name string }

// way is a beginning that pointers have in common, of no more steps than there are levels to go by.
type way struct {
	steps  []step
	ends   []int    // the pointers that end there, by their numbers
	goOn   []int    // those that go on from there
	behind []string // and what each of these is from there on
}

// waysOf: the ways that pointers go along.
func waysOf(pointers []string, levels int) []*way {
	var ways []*way
	found := map[string]*way{}
	for i, p := range pointers {
		p = strings.Clone(p)
		steps, route := begin(p, levels)
		w, ok := found[route]
		if !ok {
			w = &way{steps: steps}
			found[route] = w
			ways = append(ways, w)
		}
		if route == p {
			w.ends = append(w.ends, i)
		} else {
			w.goOn = append(w.goOn, i)
			w.behind = append(w.behind, p[len(route):])
		}
	}
	return ways
}

// begin: the first steps of a pointer, at most so many, and the route to where they lead. All routes are cut out of it, and take no room of their own.
func begin(p string, most int) ([]step, string) {
	names, _ := pointer.Parse(p)
	var steps []step
	end := 0
	for i := range min(most, len(names)) {
		steps = append(steps, step{route: p[:end], name: names[i]})
		end += len(pointer.Print(names[i : i+1]))
	}
	return steps, p[:end]
}

// longest: how many steps the longest way has.
func longest(ways []*way) int {
	n := 0
	for _, w := range ways {
		n = max(n, len(w.steps))
	}
	return n
}
