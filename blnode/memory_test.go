package blnode_test

import (
	"slices"
	"strings"
	"testing"
	"unsafe"

	"marshalling/api"
	"marshalling/blnode"
)

// deep shares nothing with n, texts and all.
func deep(n blnode.Node) blnode.Node {
	texts := func(l []string) []string {
		var m []string
		for _, s := range l {
			m = append(m, strings.Clone(s))
		}
		return m
	}
	n.Keys, n.Values, n.Kids, n.High = texts(n.Keys), texts(n.Values), slices.Clone(n.Kids), strings.Clone(n.High)
	return n
}

// roomy is n with lists that have room behind them, in which something stands.
func roomy(n blnode.Node) blnode.Node {
	texts := func(l []string) []string { return append(slices.Clone(l), "spare", "spare", "spare")[:len(l)] }
	n.Keys, n.Values = texts(n.Keys), texts(n.Values)
	spare := api.Handle{Slot: -7, Gen: 7}
	n.Kids = append(slices.Clone(n.Kids), spare, spare, spare)[:len(n.Kids)]
	return n
}

// whole is n with its lists' room in them.
func whole(n blnode.Node) blnode.Node {
	n.Keys, n.Values, n.Kids = n.Keys[:cap(n.Keys)], n.Values[:cap(n.Values)], n.Kids[:cap(n.Kids)]
	return n
}

// overwrite writes over all that n has, its room, too.
func overwrite(n blnode.Node) {
	n = whole(n)
	for k := range n.Keys {
		n.Keys[k] = "over"
	}
	for k := range n.Values {
		n.Values[k] = "over"
	}
	for k := range n.Kids {
		n.Kids[k] = api.Handle{Slot: 666, Gen: 666}
	}
}

// call is one that answers nodes and texts.
type call struct {
	name string
	do   func(n blnode.Node) ([]blnode.Node, []string)
}

func calls() []call {
	var l []call
	for _, key := range []string{"", "a", "b", "bb", "c", "zz"} {
		l = append(l,
			call{"Put " + key, func(n blnode.Node) ([]blnode.Node, []string) {
				to, old, _ := n.Put(key, "9")
				return []blnode.Node{to}, []string{old}
			}},
			call{"Delete " + key, func(n blnode.Node) ([]blnode.Node, []string) {
				to, old, _ := n.Delete(key)
				return []blnode.Node{to}, []string{old}
			}},
			call{"Add " + key, func(n blnode.Node) ([]blnode.Node, []string) {
				return []blnode.Node{n.Add(key, handle(9))}, nil
			}},
			call{"Find and Kid " + key, func(n blnode.Node) ([]blnode.Node, []string) {
				n.Find(key)
				n.Kid(key)
				n.Covers(key)
				return nil, nil
			}})
	}
	return append(l,
		call{"Split", func(n blnode.Node) ([]blnode.Node, []string) {
			left, right, sep := n.Split(handle(9))
			return []blnode.Node{left, right}, []string{sep}
		}},
		call{"Right and Full", func(n blnode.Node) ([]blnode.Node, []string) {
			n.Right()
			n.Full()
			return nil, nil
		}})
}

func handedIn() []blnode.Node { return append(rightNodes(), wrongNodes()...) }

func TestWhatIsHandedInIsNotChanged(t *testing.T) { // P9.5
	for _, c := range calls() {
		for _, n := range handedIn() {
			n = roomy(n)
			was := deep(whole(n))
			c.do(n)
			if !same(whole(n), was) {
				t.Fatalf("%s makes %s of %s", c.name, told(whole(n)), told(was))
			}
		}
	}
}

func TestWhatIsAnsweredIsWrittenOver(t *testing.T) { // P9.5
	for _, c := range calls() {
		for _, n := range handedIn() {
			n = roomy(n)
			was := deep(whole(n))
			answers, _ := c.do(n)
			for k, a := range answers {
				var others []blnode.Node
				for _, o := range answers[k+1:] {
					others = append(others, deep(whole(o)))
				}
				overwrite(a)
				if !same(whole(n), was) {
					t.Fatalf("who writes over the answer of %s makes %s of %s", c.name, told(whole(n)), told(was))
				}
				for i, o := range answers[k+1:] {
					if !same(whole(o), others[i]) {
						t.Fatalf("who writes over one answer of %s of %s makes %s of the other, %s", c.name, told(was), told(whole(o)), told(others[i]))
					}
				}
			}
		}
	}
}

func TestWhatWasHandedInIsWrittenOver(t *testing.T) { // P9.5
	for _, c := range calls() {
		for _, n := range handedIn() {
			n = roomy(n)
			answers, _ := c.do(n)
			var was []blnode.Node
			for _, a := range answers {
				was = append(was, deep(whole(a)))
			}
			overwrite(n)
			for k, a := range answers {
				if !same(whole(a), was[k]) {
					t.Fatalf("who writes over what was handed in to %s makes %s of the answer, %s", c.name, told(whole(a)), told(was[k]))
				}
			}
		}
	}
}

func TestAHalfsRoomEndsWhereItDoes(t *testing.T) { // P9.4, P9.5
	for k := 3; k < 30; k++ { // of some lengths a plain copy has room to spare
		for _, n := range []blnode.Node{roomy(leafOf(k)), roomy(inner(letters(k)...))} {
			left, right, _ := n.Split(handle(9))
			for _, h := range []blnode.Node{left, right} {
				if cap(h.Keys) != len(h.Keys) || cap(h.Values) != len(h.Values) || cap(h.Kids) != len(h.Kids) {
					t.Errorf("a half of %s has room behind its keys, values or kids", told(n))
				}
			}
			l, r := deep(left), deep(right)
			left.Keys, left.Values, left.Kids = append(left.Keys, "x"), append(left.Values, "x"), append(left.Kids, handle(9))
			if !same(right, r) {
				t.Errorf("the left half of %s grows into the right one", told(n))
			}
			right.Keys, right.Values, right.Kids = append(right.Keys, "x"), append(right.Values, "x"), append(right.Kids, handle(9))
			left.Keys, left.Values, left.Kids = left.Keys[:len(l.Keys)], left.Values[:len(l.Values)], left.Kids[:len(l.Kids)]
			if !same(left, l) {
				t.Errorf("the right half of %s grows into the left one", told(n))
			}
		}
	}
}

func texts(n blnode.Node) []string {
	l := append([]string{n.High}, n.Keys...)
	return append(l, n.Values...)
}

// places counts where the bytes of the texts begin; those that have none begin nowhere.
func places(l []string, count map[*byte]int) {
	for _, s := range l {
		if s != "" {
			count[unsafe.StringData(s)]++
		}
	}
}

func TestNoTwoTextsShareTheirBytes(t *testing.T) { // P9.5, R4
	for _, c := range calls() {
		for _, n := range handedIn() {
			n = deep(n)
			count := map[*byte]int{}
			places(texts(n), count)
			answers, more := c.do(n)
			for _, a := range answers {
				places(texts(a), count)
			}
			places(more, count)
			for _, k := range count {
				if k > 1 {
					t.Fatalf("%s of %s: a text is there twice", c.name, told(n))
				}
			}
		}
	}
}

func TestTheKeyAndTheValueAreNotKept(t *testing.T) { // R4
	text := strings.Clone("abcd")
	key, value := text[:2], text[2:]
	put, _, _ := leaf("b1").Put(key, value)
	over, _, _ := blnode.Node{Leaf: true, Keys: []string{"ab"}, Values: []string{"1"}}.Put(key, value)
	add := inner("b").Add(key, handle(9))
	for _, n := range []blnode.Node{put, over, add} {
		for _, s := range texts(n) {
			if s == "ab" && unsafe.StringData(s) == unsafe.StringData(key) || s == "cd" && unsafe.StringData(s) == unsafe.StringData(value) {
				t.Errorf("%s shares %q with what was handed in", told(n), s)
			}
		}
	}
}
