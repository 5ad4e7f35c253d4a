// Package set has sets of nodes.
package set

import "pact/api"

// Set is a set of nodes: bit i is node i.
type Set int

// Of makes a set of a list. It answers false if the list is empty, names one that is not among so many nodes, or names one twice.
func Of(list []int, nodes int) (Set, bool) {
	var s Set
	for _, i := range list {
		if i < 0 || i >= nodes || s.Has(i) {
			return 0, false
		}
		s |= 1 << i
	}
	return s, s != 0
}

// Has tells whether a node is in the set.
func (s Set) Has(node int) bool { return s>>node&1 == 1 }

// Without tells the set without a node.
func (s Set) Without(node int) Set { return s &^ (1 << node) }

// Members tells the nodes of the set, in their order.
func (s Set) Members() []int {
	var list []int
	for i := range api.MaxNodes {
		if s.Has(i) {
			list = append(list, i)
		}
	}
	return list
}
