package trie

import (
	"strings"

	"quarry/api"
)

// node is a node as it comes to be: it leads to the others themselves, as none has a number yet.
type node struct {
	steps  []api.Step
	to     []*node
	ends   []int
	number int
}

// growth is the nodes of a trie as it comes to be, in the order in which they were made.
type growth struct {
	nodes []*node
}

// grown: a new node, behind all others.
func (g *growth) grown() *node {
	n := new(node)
	g.nodes = append(g.nodes, n)
	return n
}

// next: the node to which a step leads from another one; a new one, if it leads nowhere yet.
func (g *growth) next(from *node, s api.Step) *node {
	// A node has no more steps than there are paths, so that a map would take more than it saves.
	for i, own := range from.steps {
		if own == s {
			return from.to[i]
		}
	}
	s.Name = strings.Clone(s.Name)
	to := g.grown()
	from.steps = append(from.steps, s)
	from.to = append(from.to, to)
	return to
}

// numbered: the nodes as they are told outside, each at the place of its number.
func (g *growth) numbered() []api.Node {
	for i, n := range g.nodes {
		n.number = i
	}
	t := make([]api.Node, len(g.nodes))
	for i, n := range g.nodes {
		t[i] = api.Node{Steps: n.steps, To: numbers(n.to), Ends: n.ends}
	}
	return t
}

func numbers(l []*node) []int {
	to := make([]int, len(l))
	for i, n := range l {
		to[i] = n.number
	}
	return to
}
