package art

import (
	"strings"

	"marshalling/api"
)

// Check tells whether the nodes are as they must be, and all are reached; of a tree without nodes it is true.
func (t *Tree) Check() bool {
	if !t.stands() {
		return true
	}
	seen := 0
	var right func(h api.Handle, text string) bool
	right = func(h api.Handle, text string) bool {
		n, ok := t.nodes.At(h)
		if !ok || !n.isRight(text) {
			return false
		}
		seen++
		for b, kid := range n.kids.All() {
			if !right(kid, n.text+string([]byte{b})) {
				return false
			}
		}
		return true
	}
	// The texts grow on the way down, so that it ends, and no node is seen twice.
	return right(t.nodes.Root(), "") && seen == t.Slots()
}

// isRight tells whether n may stand where all texts begin with text: the root's, or one that is told by the node above and its byte.
func (n *node) isRight(text string) bool {
	if text == "" && n.text != "" || !strings.HasPrefix(n.text, text) {
		return false
	}
	return n.isKey || n.value == "" && (text == "" || n.kids.Len() > 1)
}
