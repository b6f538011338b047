package blink

import (
	"strings"

	"marshalling/api"
	"marshalling/blnode"
	"marshalling/keys"
)

// Get is key's value; visit, if it is not nil, is called ahead of each node that is looked at. again: the tree is not there, or was dropped meanwhile.
func (t *Tree) Get(key string, visit func()) (value string, found, again bool) {
	n, ok := t.reach(key, visit)
	if !ok {
		return "", false, true
	}
	i, is := n.Find(key)
	if !is {
		return "", false, false
	}
	return strings.Clone(n.Values[i]), true, false
}

// Next is the least key that is not below key, or, if after, that is above it, and its value; visit and again are as of Get.
func (t *Tree) Next(key string, after bool, visit func()) (k, v string, found, again bool) {
	if after {
		key = keys.After(key)
	}
	n, ok := t.reach(key, visit)
	for ok {
		if i, _ := n.Find(key); i < len(n.Keys) {
			return strings.Clone(n.Keys[i]), strings.Clone(n.Values[i]), true, false
		}
		if n.Next == (api.Handle{}) {
			return "", "", false, false
		}
		n, ok = t.nodes.Look(n.Next, visit)
	}
	return "", "", false, true
}

// reach goes from the root to key's leaf; false, if it meets a handle that is dead.
func (t *Tree) reach(key string, visit func()) (*blnode.Node, bool) {
	if !t.stands() {
		return nil, false
	}
	n, ok := t.nodes.Look(t.nodes.Root(), visit)
	for ok && !(n.Leaf && n.Covers(key)) {
		n, ok = t.nodes.Look(onward(n, key), visit)
	}
	return n, ok
}

// onward is where key is to be looked for behind n: below it, or, if n was split on the way there, to the right.
func onward(n *blnode.Node, key string) api.Handle {
	if kid, ok := n.Kid(key); ok {
		return kid
	}
	return n.Next
}
