package blnode

import (
	"strings"

	"marshalling/api"
)

// Split is the two nodes that stand for n, the right one's handle being next, and the key that parts them; n itself, if it is not right, or has too few keys.
func (n Node) Split(next api.Handle) (left, right Node, sep string) {
	whole := n.clone()
	if !n.parts() {
		return whole, Node{}, ""
	}
	m := len(n.Keys) / 2
	sep = n.Keys[m]
	left = Node{Leaf: n.Leaf, High: strings.Clone(sep), Bounded: true, Next: next}
	right = Node{Leaf: n.Leaf, High: whole.High, Bounded: n.Bounded, Next: n.Next}
	if n.Leaf {
		left.Keys, right.Keys = halves(whole.Keys, m, m)
		left.Values, right.Values = halves(whole.Values, m, m)
	} else {
		// sep goes up: the kids beside it are told apart by their nodes' ends alone.
		left.Keys, right.Keys = halves(whole.Keys, m, m+1)
		left.Kids, right.Kids = halves(whole.Kids, m+1, m+1)
	}
	return left, right, strings.Clone(sep)
}

// parts tells whether both halves of n are nodes that have keys.
func (n Node) parts() bool {
	least := 2
	if !n.Leaf {
		least = 3 // one of them is in neither half
	}
	return len(n.Keys) >= least && n.Right()
}

// halves are l's elements up to the place end, and those from the place begin on. The room of each ends where it does, so that neither grows into what is the other's.
func halves[T any](l []T, end, begin int) ([]T, []T) {
	return l[:end:end], l[begin:len(l):len(l)]
}
