package art

import (
	"strings"

	"marshalling/api"
	"marshalling/artnode"
	"marshalling/keys"
)

// node is what stands in a slot. Its text stays the same as long as it stands there: a handle that a reader had ahead of a write leads to that text still, or is dead.
type node struct {
	text  string
	value string // none, if text is no key
	isKey bool
	kids  *artnode.Node[api.Handle] // by the byte that their texts have behind text
}

func newNode(text string) node {
	return node{text: strings.Clone(text), kids: artnode.New[api.Handle]()}
}

// kidTo is the kid below which key is, if it is there and is not n's own text.
func (n *node) kidTo(key string) (api.Handle, bool) {
	if len(key) <= len(n.text) || !strings.HasPrefix(key, n.text) {
		return api.Handle{}, false
	}
	return n.kids.Get(key[len(n.text)])
}

// kidsFrom are the kids below which the least key is that is not below key, if it is below n: the first one, or, as all that is below the first one may be below key, the second one.
func (n *node) kidsFrom(key string) []api.Handle {
	b := 0
	if keys.Compare(n.text, key) < 0 {
		if !strings.HasPrefix(key, n.text) {
			return nil
		}
		b = int(key[len(n.text)])
	}
	var l []api.Handle
	for range 2 {
		if at, kid, ok := n.kids.From(b); ok {
			l = append(l, kid)
			b = int(at) + 1
		}
	}
	return l
}
