package project

import (
	"quarry/api"
)

// stop is a node of a trie, and to which ones it leads. trie.Go would look at the whole trie once for each member and each element; so what it would answer is put into maps, ahead of all. No node leads to the node 0: it stands for none.
type stop struct {
	names  map[string]int
	places map[int]int
	each   int
	ends   []int
}

// stops: the nodes of a trie.
func stops(t []api.Node) []stop {
	list := make([]stop, len(t))
	for i, n := range t {
		list[i] = stop{names: map[string]int{}, places: map[int]int{}, ends: n.Ends}
		for j, step := range n.Steps {
			switch to := n.To[j]; step.Kind {
			case api.ByName:
				list[i].names[step.Name] = to
			case api.ByPlace:
				list[i].places[step.Place] = to
			case api.Each:
				list[i].each = to
			}
		}
	}
	return list
}
