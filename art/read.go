package art

import (
	"strings"

	"marshalling/api"
	"marshalling/keys"
)

// Get is key's value; visit, if it is not nil, is called ahead of each node that is looked at. again: the tree is not there, or what was to be looked at is gone.
func (t *Tree) Get(key string, visit func()) (value string, found, again bool) {
	if !t.stands() {
		return "", false, true
	}
	var down func(h api.Handle) (value string, found, again bool)
	down = func(h api.Handle) (value string, found, again bool) {
		n, ok := t.nodes.Look(h, visit)
		if !ok {
			return "", false, true
		}
		if n.text == key {
			return strings.Clone(n.value), n.isKey, false
		}
		kid, ok := n.kidTo(key)
		if !ok {
			return "", false, false
		}
		return down(kid)
	}
	return down(t.nodes.Root())
}

// Next is the least key that is not below key, or, if after, that is above it, and its value; visit and again are as of Get.
func (t *Tree) Next(key string, after bool, visit func()) (k, v string, found, again bool) {
	if !t.stands() {
		return "", "", false, true
	}
	if after {
		key = keys.After(key)
	}
	var down func(h api.Handle) (k, v string, found, again bool)
	down = func(h api.Handle) (k, v string, found, again bool) {
		n, ok := t.nodes.Look(h, visit)
		if !ok {
			return "", "", false, true
		}
		if n.isKey && keys.Compare(n.text, key) >= 0 {
			return strings.Clone(n.text), strings.Clone(n.value), true, false
		}
		for _, kid := range n.kidsFrom(key) {
			if k, v, found, again = down(kid); found || again {
				break
			}
		}
		return k, v, found, again
	}
	return down(t.nodes.Root())
}
