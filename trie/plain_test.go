package trie

import (
	"fmt"
	"slices"
	"strings"
	"unicode/utf8"

	"quarry/api"
)

// The chapter's words, said once more and in another way, and steps, paths and tries of all kinds to hold the calls against them.

type steps = []api.Step

func name(s string) api.Step { return api.Step{Kind: api.ByName, Name: s} }
func place(n int) api.Step   { return api.Step{Kind: api.ByPlace, Place: n} }

var all = api.Step{Kind: api.Each}

// Short names of some steps.
var (
	a = name("a")
	b = name("b")
	c = name("c")
)

// nodeOf: a node of its ends, and of steps and where they lead in turns.
func nodeOf(ends []int, parts ...any) api.Node {
	n := api.Node{Ends: ends}
	for i := 0; i < len(parts); i += 2 {
		n.Steps = append(n.Steps, parts[i].(api.Step))
		n.To = append(n.To, parts[i+1].(int))
	}
	return n
}

func ends(l ...int) []int { return l }

// The like texts of two are the same just if all that is in them is the same, be lists nil or empty.

func showPath(p steps) string {
	var s strings.Builder
	for _, x := range p {
		fmt.Fprintf(&s, "<%d %q %d>", x.Kind, x.Name, x.Place)
	}
	return s.String()
}

func showPaths(l []steps) string {
	var s strings.Builder
	for _, p := range l {
		s.WriteString("(" + showPath(p) + ")")
	}
	return s.String()
}

func show(t []api.Node) string {
	var s strings.Builder
	for _, n := range t {
		fmt.Fprintf(&s, "{%s to %d ends %d}", showPath(n.Steps), n.To, n.Ends)
	}
	return s.String()
}

// brief: a text to be read, of anything.
func brief(x any) string {
	s := fmt.Sprintf("%+v", x)
	if len(s) > 400 {
		return s[:400] + ".."
	}
	return s
}

const greatest = 999999999999999999

// isStep: what chapter 22's words say of a step.
func isStep(s api.Step) bool {
	return s.Kind == 1 && utf8.ValidString(s.Name) && s.Place == 0 ||
		s.Kind == 2 && s.Place >= 0 && s.Place <= greatest && s.Name == "" ||
		s.Kind == 3 && s.Place == 0 && s.Name == ""
}

func notStep(s api.Step) bool { return !isStep(s) }

// isTrie: what the chapter's words say of a trie.
func isTrie(t []api.Node) bool {
	leads := map[int]int{}
	var numbers []int
	for i, n := range t {
		if len(n.To) != len(n.Steps) || slices.ContainsFunc(n.Steps, notStep) {
			return false
		}
		for j := range n.Steps {
			if slices.Contains(n.Steps[:j], n.Steps[j]) || n.To[j] <= i {
				return false
			}
			leads[n.To[j]]++
		}
		if !slices.IsSorted(n.Ends) {
			return false
		}
		numbers = append(numbers, n.Ends...)
	}
	for i := 1; i < len(t); i++ {
		if leads[i] != 1 {
			return false
		}
		delete(leads, i)
	}
	slices.Sort(numbers)
	for k, n := range numbers {
		if k != n {
			return false
		}
	}
	return len(t) > 0 && len(leads) == 0 && len(numbers) <= 256
}

// beginnings: those of all paths, a text each, with the number that each has among them as they are met first.
func beginnings(l []steps) map[string]int {
	numbers := map[string]int{showPath(nil): 0}
	for _, p := range l {
		for n := range p {
			if s := showPath(p[:n+1]); numbers[s] == 0 {
				numbers[s] = len(numbers)
			}
		}
	}
	return numbers
}

// builtOf: what the chapter's words say of the trie of some paths: its nodes are their beginnings.
func builtOf(l []steps) []api.Node {
	numbers := beginnings(l)
	t := make([]api.Node, len(numbers))
	for k, p := range l {
		for n, s := range p {
			from, to := &t[numbers[showPath(p[:n])]], numbers[showPath(p[:n+1])]
			if !slices.Contains(from.To, to) {
				from.Steps, from.To = append(from.Steps, s), append(from.To, to)
			}
		}
		last := &t[numbers[showPath(p)]]
		last.Ends = append(last.Ends, k)
	}
	return t
}

// pathsOf: what the chapter's words say of the paths of a trie, by their numbers.
func pathsOf(t []api.Node) []steps {
	found := map[int]steps{}
	var walk func(i int, p steps)
	walk = func(i int, p steps) {
		for _, k := range t[i].Ends {
			found[k] = p
		}
		for j, s := range t[i].Steps {
			walk(t[i].To[j], append(slices.Clone(p), s))
		}
	}
	walk(0, nil)
	var list []steps
	for k := range len(found) {
		list = append(list, found[k])
	}
	return list
}

// takesIt: what chapter 22's words say of a step and a member, or an element.
func takesIt(s api.Step, own string, n int, object bool) bool {
	switch {
	case s.Kind == 3:
		return true
	case object:
		return s.Kind == 1 && s.Name == own
	}
	return s.Kind == 2 && s.Place == n
}

// goesTo: what the chapter's words say of a node that there is.
func goesTo(n api.Node, own string, at int, object bool) []int {
	var list []int
	for i, s := range n.Steps {
		if takesIt(s, own, at, object) {
			list = append(list, n.To[i])
		}
	}
	slices.Sort(list)
	return list
}

func isSame(s, x api.Step) bool { return showPath(steps{s}) == showPath(steps{x}) }

// common: how many first steps two paths have that are the same.
func common(p, q steps) int {
	n := 0
	for n < len(p) && n < len(q) && isSame(p[n], q[n]) {
		n++
	}
	return n
}

// nodesOn: the nodes of the path of a number, from the node 0 on.
func nodesOn(t []api.Node, k int) []int {
	at := slices.IndexFunc(t, func(n api.Node) bool { return slices.Contains(n.Ends, k) })
	list := []int{at}
	for at > 0 {
		at = slices.IndexFunc(t, func(n api.Node) bool { return slices.Contains(n.To, at) })
		list = append(list, at)
	}
	slices.Reverse(list)
	return list
}

// paths: every path of at most n of some steps.
func paths(n int, parts ...api.Step) []steps {
	var list []steps
	for m := range n + 1 {
		for _, p := range listsOf(m, parts) {
			list = append(list, p)
		}
	}
	return list
}

// listsOf: every list of just n of some parts.
func listsOf[T any](n int, parts []T) [][]T {
	list := [][]T{nil}
	for range n {
		var next [][]T
		for _, l := range list {
			for _, p := range parts {
				next = append(next, append(slices.Clone(l), p))
			}
		}
		list = next
	}
	return list
}

// rows: every list of at most n of some paths.
func rows(n int, parts []steps) [][]steps {
	var list [][]steps
	for m := range n + 1 {
		list = append(list, listsOf(m, parts)...)
	}
	return list
}

// orders: all orders of some paths.
func orders(l []steps) [][]steps {
	if len(l) == 0 {
		return [][]steps{nil}
	}
	var list [][]steps
	for i, p := range l {
		rest := slices.Delete(slices.Clone(l), i, i+1)
		for _, o := range orders(rest) {
			list = append(list, append([]steps{p}, o...))
		}
	}
	return list
}

// Steps that are well shaped, with some that are alike but for one thing.
var good = []api.Step{
	a, b, c, name(""), name("A"), name("ab"), name("*"), name("0"), name("7"), name("a b"), name("/"), name("~1"), name("$.a"), name("\x00"), name("\u00e4"), name("a\u0308"), name("\U0001f600"), name(strings.Repeat("a", 300)),
	place(0), place(1), place(7), place(1 << 31), place(1 << 32), place(greatest), all,
}

// Steps that aren't.
var bad = []api.Step{
	{}, {Kind: 7}, {Kind: -1}, {Kind: 4}, {Kind: 257}, {Kind: 1 << 32}, {Kind: 1<<32 + 1}, {Name: "a"}, {Kind: 4, Name: "a"},
	place(-1), place(greatest + 1), place(-1 << 63), place(1<<63 - 1),
	name("\xff"), name("a\xe2\x82"), name("\xed\xa0\x80"), name("\xc0\x80"),
	{Kind: api.ByName, Name: "a", Place: 1}, {Kind: api.ByName, Place: -1}, {Kind: api.ByPlace, Name: "a"}, {Kind: api.ByPlace, Name: "a", Place: 1}, {Kind: api.Each, Name: "a"}, {Kind: api.Each, Place: 1}, {Kind: api.Each, Name: "\xff"},
}

// rule: ordinary numbers from a fixed rule.
type rule uint64

func (r *rule) below(n int) int {
	*r = *r*6364136223846793005 + 1442695040888963407
	return int((uint64(*r) ^ uint64(*r)>>29) % uint64(n))
}

// path: one that often begins like one of the others.
func (r *rule) path(l []steps) steps {
	var p steps
	if len(l) > 0 && r.below(4) > 0 {
		q := l[r.below(len(l))]
		p = slices.Clone(q[:r.below(len(q)+1)])
	}
	for range r.below(5) {
		p = append(p, good[r.below([]int{2, 6, len(good)}[r.below(3)])])
		if r.below(3) == 0 {
			p[len(p)-1] = all
		}
	}
	return p
}

// list: some paths.
func (r *rule) list() []steps {
	var l []steps
	for range r.below([]int{3, 8, 40}[r.below(3)]) {
		l = append(l, r.path(l))
	}
	return l
}

// trie: one that is well shaped, in general none that Build makes: nodes without ends, in any order that may be, with their paths in any.
func (r *rule) trie() []api.Node {
	t := make([]api.Node, 1+r.below(12))
	for i := 1; i < len(t); i++ {
		n := &t[r.below(i)]
		s := good[r.below(len(good))]
		for slices.Contains(n.Steps, s) {
			s = name(s.Name + "x")
		}
		at := r.below(len(n.Steps) + 1)
		n.Steps, n.To = slices.Insert(n.Steps, at, s), slices.Insert(n.To, at, i)
	}
	for k := range r.below(10) {
		n := &t[r.below(len(t))]
		n.Ends = append(n.Ends, k)
	}
	return t
}

// kept: a copy that has nothing in common with the trie.
func kept(t []api.Node) []api.Node {
	t = slices.Clone(t)
	for i, n := range t {
		t[i] = api.Node{Steps: slices.Clone(n.Steps), To: slices.Clone(n.To), Ends: slices.Clone(n.Ends)}
	}
	return t
}

// tries: well shaped ones of all kinds.
func tries() [][]api.Node {
	list := [][]api.Node{
		{{}}, {nodeOf(ends(0))}, {nodeOf(ends(0, 1, 2))}, {nodeOf(nil, a, 1), {}}, {nodeOf(nil, a, 1), nodeOf(ends(0))},
		{nodeOf(ends(1), b, 2, all, 1), nodeOf(ends(0, 3)), nodeOf(ends(2))},
		{nodeOf(nil, a, 1, b, 3), nodeOf(nil, a, 2), nodeOf(ends(0)), nodeOf(nil)},
		{nodeOf(nil, a, 1), nodeOf(nil, b, 4, all, 2), nodeOf(nil, place(7), 3), {}, nodeOf(ends(0))},
	}
	var r rule = 23
	for range 150 {
		list = append(list, builtOf(r.list()), r.trie())
	}
	return list
}

// spoilt: all that comes of a trie, if one thing in it is changed: some of it well shaped still.
func spoilt(t []api.Node) [][]api.Node {
	var list [][]api.Node
	change := func(what func(t []api.Node)) {
		u := kept(t)
		what(u)
		list = append(list, u)
	}
	count := len(pathsOf(t))
	for i, n := range t {
		for j, s := range n.Steps {
			for to := -1; to <= len(t); to++ {
				change(func(u []api.Node) { u[i].To[j] = to })
			}
			change(func(u []api.Node) { u[i].To = slices.Delete(u[i].To, j, j+1) })
			change(func(u []api.Node) { u[i].To = slices.Insert(u[i].To, j, len(t)) })
			change(func(u []api.Node) { u[i].Steps = slices.Delete(u[i].Steps, j, j+1) })
			change(func(u []api.Node) { u[i].Steps = slices.Insert(u[i].Steps, j, s) })
			change(func(u []api.Node) {
				u[i].Steps, u[i].To = slices.Delete(u[i].Steps, j, j+1), slices.Delete(u[i].To, j, j+1)
			})
			for _, other := range []api.Step{a, all, n.Steps[0], n.Steps[len(n.Steps)-1], bad[(i+j)%len(bad)], bad[(i+7*j+len(t))%len(bad)]} {
				change(func(u []api.Node) { u[i].Steps[j] = other })
			}
			change(func(u []api.Node) { u[i].Steps[j].Kind = 0 })
			change(func(u []api.Node) { u[i].Steps[j].Place-- })
			change(func(u []api.Node) { u[i].Steps[j].Name += "\xff" })
		}
		for j, k := range n.Ends {
			for other := -1; other <= count+1; other++ {
				change(func(u []api.Node) { u[i].Ends[j] = other })
			}
			change(func(u []api.Node) { u[i].Ends = slices.Delete(u[i].Ends, j, j+1) })
			change(func(u []api.Node) { u[i].Ends = slices.Insert(u[i].Ends, j, k) })
			change(func(u []api.Node) { slices.Reverse(u[i].Ends) })
		}
		for k := -1; k <= count+1; k++ {
			change(func(u []api.Node) { u[i].Ends = append(u[i].Ends, k) })
			change(func(u []api.Node) { u[i].Ends = slices.Insert(u[i].Ends, 0, k) })
		}
		for j := range i {
			change(func(u []api.Node) { u[i], u[j] = u[j], u[i] })
		}
		list = append(list, slices.Delete(kept(t), i, i+1), slices.Insert(kept(t), i, api.Node{}))
	}
	return append(list, nil, append(kept(t), api.Node{}), append(kept(t), t...))
}
