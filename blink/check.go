package blink

import (
	"slices"

	"marshalling/api"
	"marshalling/blnode"
	"marshalling/keys"
)

// stand is a node as the level above tells of it: where it stands, and which keys are its.
type stand struct {
	at      api.Handle
	low     string // its least key
	high    string // if bounded, its keys are below
	bounded bool
}

// Check tells whether the tree is as it must be, and reaches each of its nodes; of a dropped one it is true.
func (t *Tree) Check() bool {
	if t.made() == nil {
		return false
	}
	var row []stand
	if t.stands() {
		row = []stand{{at: t.nodes.Root()}}
	}
	seen := 0
	for len(row) > 0 && seen < t.Slots() { // a level that leads back above itself has no end
		if !t.isLevel(row) {
			return false
		}
		seen += len(row)
		row = t.below(row)
	}
	return len(row) == 0 && seen == t.Slots()
}

// isLevel tells whether the nodes of row are as the level above tells of them, all leaves or none, each the right neighbour of the one ahead of it.
func (t *Tree) isLevel(row []stand) bool {
	first, _ := t.nodes.At(row[0].at)
	for i, s := range row {
		n, ok := t.nodes.At(s.at)
		if !ok || n.Leaf != first.Leaf || !s.fits(n) || n.Next != nextOf(row, i) {
			return false
		}
	}
	return true
}

// below are the kids of a level, from left to right; leaves have none.
func (t *Tree) below(row []stand) []stand {
	var kids []stand
	for _, s := range row {
		n, _ := t.nodes.At(s.at)
		kids = append(kids, s.kids(n)...)
	}
	return kids
}

// nextOf is the right neighbour's handle of the place i of row.
func nextOf(row []stand, i int) api.Handle {
	if i+1 == len(row) {
		return api.Handle{}
	}
	return row[i+1].at
}

// fits tells whether n is what stands there.
func (s stand) fits(n *blnode.Node) bool {
	return n.Right() && !n.Full() && n.Bounded == s.bounded && n.High == s.high && !slices.ContainsFunc(n.Keys, s.isAbove)
}

// isAbove tells whether s begins above key.
func (s stand) isAbove(key string) bool { return keys.Compare(key, s.low) < 0 }

// kids are n's kids, which part its keys.
func (s stand) kids(n *blnode.Node) []stand {
	var l []stand
	for i, kid := range n.Kids {
		part := stand{at: kid, low: s.low, high: s.high, bounded: s.bounded}
		if i > 0 {
			part.low = n.Keys[i-1]
		}
		if i < len(n.Keys) {
			part.high, part.bounded = n.Keys[i], true
		}
		l = append(l, part)
	}
	return l
}
