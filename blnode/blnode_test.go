package blnode_test

import (
	"fmt"
	"math"
	"slices"
	"strings"
	"testing"

	"marshalling/api"
	"marshalling/blnode"
)

func handle(n int) api.Handle { return api.Handle{Slot: n, Gen: 1} }

// leaf is one without an end; each pair is a key of one byte, and its value.
func leaf(pairs ...string) blnode.Node {
	n := blnode.Node{Leaf: true}
	for _, p := range pairs {
		n.Keys, n.Values = append(n.Keys, p[:1]), append(n.Values, p[1:])
	}
	return n
}

// inner is a node that is no leaf, without an end; its kids have the slots from 1 on.
func inner(keys ...string) blnode.Node {
	n := blnode.Node{Keys: keys, Kids: []api.Handle{handle(1)}}
	for k := range keys {
		n.Kids = append(n.Kids, handle(k+2))
	}
	return n
}

// bounded is n with the end high.
func bounded(n blnode.Node, high string) blnode.Node {
	n.High, n.Bounded = high, true
	return n
}

// beside is n with the right neighbour next.
func beside(n blnode.Node, next api.Handle) blnode.Node {
	n.Next = next
	return n
}

func same(a, b blnode.Node) bool {
	return a.Leaf == b.Leaf && slices.Equal(a.Keys, b.Keys) && slices.Equal(a.Values, b.Values) && slices.Equal(a.Kids, b.Kids) &&
		a.High == b.High && a.Bounded == b.Bounded && a.Next == b.Next
}

// told is n with its texts quoted, as they may have any bytes.
func told(n blnode.Node) string {
	return fmt.Sprintf("{leaf %v, %+q %+q %v, high %+q %v, next %v}", n.Leaf, n.Keys, n.Values, n.Kids, n.High, n.Bounded, n.Next)
}

func wantFind(t *testing.T, n blnode.Node, key string, i int, is bool) {
	t.Helper()
	if got, found := n.Find(key); got != i || found != is {
		t.Errorf("Find(%q) of %s = %d, %v, want %d, %v", key, told(n), got, found, i, is)
	}
}

func wantKid(t *testing.T, n blnode.Node, key string, kid api.Handle, ok bool) {
	t.Helper()
	if got, found := n.Kid(key); got != kid || found != ok {
		t.Errorf("Kid(%q) of %s = %v, %v, want %v, %v", key, told(n), got, found, kid, ok)
	}
}

func wantPut(t *testing.T, n blnode.Node, key, value string, to blnode.Node, old string, had bool) {
	t.Helper()
	if got, was, there := n.Put(key, value); !same(got, to) || was != old || there != had {
		t.Errorf("Put(%q, %q) of %s = %s, %q, %v, want %s, %q, %v", key, value, told(n), told(got), was, there, told(to), old, had)
	}
}

func wantDelete(t *testing.T, n blnode.Node, key string, to blnode.Node, old string, had bool) {
	t.Helper()
	if got, was, there := n.Delete(key); !same(got, to) || was != old || there != had {
		t.Errorf("Delete(%q) of %s = %s, %q, %v, want %s, %q, %v", key, told(n), told(got), was, there, told(to), old, had)
	}
}

func wantAdd(t *testing.T, n blnode.Node, sep string, kid api.Handle, to blnode.Node) {
	t.Helper()
	if got := n.Add(sep, kid); !same(got, to) {
		t.Errorf("Add(%q, %v) of %s = %s, want %s", sep, kid, told(n), told(got), told(to))
	}
}

func wantSplit(t *testing.T, n blnode.Node, next api.Handle, left, right blnode.Node, sep string) {
	t.Helper()
	if l, r, s := n.Split(next); !same(l, left) || !same(r, right) || s != sep {
		t.Errorf("Split(%v) of %s = %s, %s, %q, want %s, %s, %q", next, told(n), told(l), told(r), s, told(left), told(right), sep)
	}
}

func TestTheDocumentsExamples(t *testing.T) { // P9.2, P9.3, P9.4
	l, i := leaf("b1", "d2"), inner("m", "s")
	wantFind(t, l, "c", 1, false)
	wantFind(t, l, "d", 1, true)
	wantPut(t, l, "c", "9", leaf("b1", "c9", "d2"), "", false)
	wantPut(t, l, "d", "9", leaf("b1", "d9"), "2", true)
	wantDelete(t, l, "x", l, "", false)
	wantKid(t, i, "a", handle(1), true)
	wantKid(t, i, "m", handle(2), true)
	wantKid(t, i, "z", handle(3), true)
	wantKid(t, l, "a", api.Handle{}, false)
	wantAdd(t, i, "p", handle(7), blnode.Node{Keys: []string{"m", "p", "s"}, Kids: []api.Handle{handle(1), handle(2), handle(7), handle(3)}})
	wantSplit(t, l, handle(9), beside(bounded(leaf("b1"), "d"), handle(9)), leaf("d2"), "d")
}

// letters are n keys of one byte each, rising from a on.
func letters(n int) []string {
	var l []string
	for k := range n {
		l = append(l, string(rune('a'+k)))
	}
	return l
}

// leafOf has n keys, with their own letters as values.
func leafOf(n int) blnode.Node {
	return blnode.Node{Leaf: true, Keys: letters(n), Values: letters(n)}
}

func rightNodes() []blnode.Node {
	l := []blnode.Node{
		bounded(leaf(), ""), bounded(inner(), ""), // no key is below the empty one, and they have none
		bounded(leaf("a"), "a\x00"), bounded(inner("\x7f"), "\x80"), bounded(leaf("a1", "\xfe2"), "\xff"),
		{Leaf: true, Keys: []string{"", "\x00", "\x00\x00", "\x7f", "\x80", "\xff", "\xff\x00"}, Values: make([]string, 7)},
		{Leaf: true, Keys: []string{}, Values: []string{}, Kids: []api.Handle{}},
		{Keys: []string{}, Values: []string{}, Kids: make([]api.Handle, 1)},
		{Keys: []string{"a", "b"}, Kids: make([]api.Handle, 3), Next: handle(7)},
		{Leaf: true, Next: api.Handle{Slot: -1, Gen: math.MaxUint64}},
		{Leaf: true, Keys: []string{strings.Repeat("k", 25)}, Values: []string{strings.Repeat("v", 33)}},
	}
	for _, k := range []int{0, 1, 2, 3, 4, 5, 6, 20} {
		for _, n := range []blnode.Node{leafOf(k), inner(letters(k)...)} {
			l = append(l, n, bounded(n, "z"), beside(n, handle(8)), beside(bounded(n, "z"), handle(8)))
		}
	}
	return l
}

// wrongNodes are not right, each in one way, but for the last ones.
func wrongNodes() []blnode.Node {
	kids := []api.Handle{handle(1), handle(2), handle(3)}
	return []blnode.Node{
		// Keys that do not rise.
		leaf("b1", "a2"), leaf("a1", "a2"), leaf("a1", "c2", "b3"), leaf("b1", "a2", "c3"), leaf("a1", "b2", "b3"),
		inner("b", "a"), inner("a", "a"), inner("a", "c", "b"), inner("", ""), inner("\x80", "\x7f"), inner("a\x00", "a"),
		// Values and kids that are too few or too many.
		{Leaf: true, Keys: []string{"a", "b"}, Values: []string{"1"}},
		{Leaf: true, Keys: []string{"a", "b"}},
		{Leaf: true, Keys: []string{"a"}, Values: []string{"1", "2"}},
		{Leaf: true, Values: []string{""}},
		{},
		{Keys: []string{"a"}, Kids: kids[:1]},
		{Keys: []string{"a", "b"}, Kids: kids[:2]},
		{Keys: []string{"a"}},
		{Keys: []string{"a"}, Kids: kids},
		{Kids: kids[:2]},
		// A leaf's parts in another node, and the other way round.
		{Leaf: true, Keys: []string{"a"}, Values: []string{"1"}, Kids: kids[:1]},
		{Leaf: true, Keys: []string{"a"}, Values: []string{"1"}, Kids: kids[:2]},
		{Leaf: true, Kids: kids[:1]},
		{Keys: []string{"a"}, Values: []string{"1"}, Kids: kids[:2]},
		{Keys: []string{"a"}, Values: []string{"1"}},
		{Values: []string{""}, Kids: kids[:1]},
		// Keys that are not below High, and a High that is no end.
		bounded(leaf("a1", "b2"), "b"), bounded(leaf("a1", "c2"), "b"), bounded(leaf("c1"), "b"), bounded(inner("a", "b"), "b"),
		bounded(inner("a", "c"), "b"), bounded(leaf("a1"), ""), bounded(inner(""), ""), bounded(inner("\x80"), "\x7f"),
		{Leaf: true, High: "z"},
		{Leaf: true, Keys: []string{"a"}, Values: []string{"1"}, High: "z"},
		{Keys: []string{"a"}, Kids: kids[:2], High: "z"},
		{Kids: kids[:1], High: "\x00"},
		// Several at once, beside a neighbour.
		{Leaf: true, Keys: []string{"b", "a"}, Kids: kids, High: "a", Bounded: true, Next: handle(8)},
		{Keys: []string{"b", "b", "b"}, Values: []string{"1", "2", "3"}, High: "a", Next: handle(8)},
	}
}

func TestRight(t *testing.T) { // P9.1
	for _, n := range rightNodes() {
		if !n.Right() {
			t.Errorf("not right: %s", told(n))
		}
	}
	for _, n := range wrongNodes() {
		if n.Right() {
			t.Errorf("right: %s", told(n))
		}
	}
}

func TestCovers(t *testing.T) { // P9.1
	for _, n := range []blnode.Node{leafOf(2), inner("a"), leaf(), {}, {High: "b"}, leaf("b1", "a2")} {
		for _, key := range []string{"", "a", "b", "c", "\xff\xff", strings.Repeat("\xff", 25)} {
			if !n.Covers(key) {
				t.Errorf("%s, which has no end, does not cover %q", told(n), key)
			}
		}
	}
	for _, n := range []blnode.Node{leafOf(2), inner("a"), leaf(), {}, leaf("m2", "m1"), inner("n")} {
		for key, want := range map[string]bool{"": true, "a": true, "lzz": true, "m": true, "m\x00": false, "m\x00\x00": false, "ma": false, "n": false, "\x80": false, "\xff": false} {
			if got := bounded(n, "m\x00").Covers(key); got != want {
				t.Errorf("%s, whose end is m 0, covers %q: %v", told(n), key, got)
			}
		}
		if bounded(n, "").Covers("") || bounded(n, "").Covers("a") {
			t.Errorf("%s, whose end is the empty key, covers one", told(n))
		}
	}
}

func TestFull(t *testing.T) { // P9.1
	if blnode.Order != 4 {
		t.Errorf("Order is %d", blnode.Order)
	}
	for k := range 12 {
		for _, n := range []blnode.Node{leafOf(k), inner(letters(k)...), bounded(leafOf(k), "z"), {Keys: make([]string, k)}, {Leaf: true, Keys: letters(k)}} {
			if got, want := n.Full(), k > 4; got != want {
				t.Errorf("%s is too full: %v", told(n), got)
			}
		}
	}
	if n := (blnode.Node{Leaf: true, Values: make([]string, 9), Kids: make([]api.Handle, 9)}); n.Full() {
		t.Error("too full without keys")
	}
}

func TestFind(t *testing.T) { // P9.2
	l := []string{"", "\x00", "a", "a\x00", "ab", "b", "\x7f", "\x80", "\xff"}
	for k := range l {
		for _, n := range []blnode.Node{{Leaf: true, Keys: l, Values: l}, inner(l...), {Keys: l}, bounded(inner(l...), "a")} {
			wantFind(t, n, l[k], k, true)
			wantFind(t, n, l[k]+"\x00\x00", k+1+after(l, l[k]+"\x00\x00", k), false)
		}
		wantFind(t, inner(l[:k]...), l[k], k, false)
		wantFind(t, inner(l[k+1:]...), l[k], 0, false)
	}
	for _, key := range []string{"", "a", "\xff"} {
		wantFind(t, leaf(), key, 0, false)
		wantFind(t, inner(), key, 0, false)
		wantFind(t, blnode.Node{}, key, 0, false)
	}
	wantFind(t, leafOf(20), "j", 9, true)
	wantFind(t, leafOf(20), "jj", 10, false)
	wantFind(t, leafOf(20), "zz", 20, false)
}

// after is how many of l behind the place k are less than key.
func after(l []string, key string, k int) int {
	n := 0
	for _, x := range l[k+1:] {
		if strings.Compare(x, key) < 0 {
			n++
		}
	}
	return n
}

func TestKid(t *testing.T) { // P9.2
	n := inner("b", "d", "d\x00", "\x80")
	for key, want := range map[string]int{"": 1, "a": 1, "a\xff": 1, "b": 2, "b\x00": 2, "c": 2, "d": 3, "d\x00": 4, "d\x00\x00": 4, "\x7f": 4, "\x80": 5, "\xff": 5} {
		wantKid(t, n, key, handle(want), true)
		covered := key < "\x80\x00"
		if covered {
			wantKid(t, bounded(n, "\x80\x00"), key, handle(want), true)
		} else {
			wantKid(t, bounded(n, "\x80\x00"), key, api.Handle{}, false)
		}
		wantKid(t, inner(), key, handle(1), true)
	}
	wantKid(t, bounded(n, "\x81"), "\x81", api.Handle{}, false)
	wantKid(t, bounded(inner(), ""), "", api.Handle{}, false)
	wantKid(t, inner(letters(20)...), "j", handle(11), true)
	// A kid is a handle like any other, the zero one, too.
	wantKid(t, blnode.Node{Keys: []string{"m"}, Kids: make([]api.Handle, 2)}, "m", api.Handle{}, true)
	for _, n := range append(wrongNodes(), leaf(), leafOf(3), bounded(leafOf(3), "z")) {
		for _, key := range []string{"", "a", "b", "c", "\xff"} {
			wantKid(t, n, key, api.Handle{}, false)
		}
	}
}

func TestPut(t *testing.T) { // P9.3
	wantPut(t, leaf(), "", "", blnode.Node{Leaf: true, Keys: []string{""}, Values: []string{""}}, "", false)
	wantPut(t, leaf("b1"), "a", "9", leaf("a9", "b1"), "", false)
	wantPut(t, leaf("b1"), "b", "9", leaf("b9"), "1", true)
	wantPut(t, leaf("b1"), "b", "1", leaf("b1"), "1", true)
	wantPut(t, leaf("b1"), "b", "", leaf("b"), "1", true)
	wantPut(t, leaf("b"), "b", "9", leaf("b9"), "", true)
	wantPut(t, leaf("b1"), "c", "9", leaf("b1", "c9"), "", false)
	wantPut(t, leaf("a1", "\xff2"), "\x80", "9", leaf("a1", "\x809", "\xff2"), "", false)
	wantPut(t, leaf("a1", "b2", "c3", "d4"), "e", "5", leaf("a1", "b2", "c3", "d4", "e5"), "", false)
	wantPut(t, leaf("a1", "b2", "c3", "d4", "e5"), "c", "9", leaf("a1", "b2", "c9", "d4", "e5"), "3", true)
	wantPut(t, leaf("a1", "b2", "d4", "e5", "f6"), "c", "9", leaf("a1", "b2", "c9", "d4", "e5", "f6"), "", false)
	// Its end and its neighbour stay.
	n := beside(bounded(leaf("b1", "d2"), "e"), handle(8))
	wantPut(t, n, "c", "9", beside(bounded(leaf("b1", "c9", "d2"), "e"), handle(8)), "", false)
	wantPut(t, n, "d", "9", beside(bounded(leaf("b1", "d9"), "e"), handle(8)), "2", true)
	// Nobody asks here whether a text is a key or a value.
	key, value := strings.Repeat("k", 25), strings.Repeat("v", 33)
	wantPut(t, leaf(), key, value, blnode.Node{Leaf: true, Keys: []string{key}, Values: []string{value}}, "", false)
}

func TestDelete(t *testing.T) { // P9.3
	wantDelete(t, leaf(), "", leaf(), "", false)
	wantDelete(t, leaf("b1"), "b", leaf(), "1", true)
	wantDelete(t, leaf("b"), "b", leaf(), "", true)
	wantDelete(t, leaf("b1"), "a", leaf("b1"), "", false)
	wantDelete(t, leaf("b1"), "b\x00", leaf("b1"), "", false)
	wantDelete(t, leaf("a1", "b2", "c3"), "a", leaf("b2", "c3"), "1", true)
	wantDelete(t, leaf("a1", "b2", "c3"), "b", leaf("a1", "c3"), "2", true)
	wantDelete(t, leaf("a1", "b2", "c3"), "c", leaf("a1", "b2"), "3", true)
	wantDelete(t, leaf("a1", "b2", "c3", "d4", "e5"), "e", leaf("a1", "b2", "c3", "d4"), "5", true)
	n := beside(bounded(leaf("b1", "\x802"), "\xff"), handle(8))
	wantDelete(t, n, "\x80", beside(bounded(leaf("b1"), "\xff"), handle(8)), "2", true)
	wantDelete(t, n, "c", n, "", false)
}

func TestAdd(t *testing.T) { // P9.3
	wantAdd(t, inner(), "", handle(9), blnode.Node{Keys: []string{""}, Kids: []api.Handle{handle(1), handle(9)}})
	wantAdd(t, inner("m"), "a", handle(9), blnode.Node{Keys: []string{"a", "m"}, Kids: []api.Handle{handle(1), handle(9), handle(2)}})
	wantAdd(t, inner("m"), "z", handle(9), blnode.Node{Keys: []string{"m", "z"}, Kids: []api.Handle{handle(1), handle(2), handle(9)}})
	wantAdd(t, inner("m"), "m\x00", api.Handle{}, blnode.Node{Keys: []string{"m", "m\x00"}, Kids: []api.Handle{handle(1), handle(2), {}}})
	wantAdd(t, inner("m"), "\x80", handle(1), blnode.Node{Keys: []string{"m", "\x80"}, Kids: []api.Handle{handle(1), handle(2), handle(1)}})
	wantAdd(t, inner("a", "b", "c", "d"), "e", handle(6), inner("a", "b", "c", "d", "e"))
	n := beside(bounded(inner("a", "b", "d", "e", "f"), "z"), handle(8))
	to := beside(bounded(inner("a", "b", "c", "d", "e", "f"), "z"), handle(8))
	to.Kids = []api.Handle{handle(1), handle(2), handle(3), handle(9), handle(4), handle(5), handle(6)}
	wantAdd(t, n, "c", handle(9), to)
	for _, sep := range n.Keys { // there already
		wantAdd(t, n, sep, handle(9), n)
	}
	wantAdd(t, inner(""), "", handle(9), inner(""))
}

func TestSplitALeaf(t *testing.T) { // P9.4
	wantSplit(t, leaf("a1", "b2"), handle(9), beside(bounded(leaf("a1"), "b"), handle(9)), leaf("b2"), "b")
	wantSplit(t, leaf("a1", "b2", "c3"), handle(9), beside(bounded(leaf("a1"), "b"), handle(9)), leaf("b2", "c3"), "b")
	wantSplit(t, leaf("a1", "b2", "c3", "d4"), handle(9), beside(bounded(leaf("a1", "b2"), "c"), handle(9)), leaf("c3", "d4"), "c")
	n := beside(bounded(leaf("a1", "b2", "c3", "d4", "e5"), "x"), handle(8))
	left, right := beside(bounded(leaf("a1", "b2"), "c"), handle(9)), beside(bounded(leaf("c3", "d4", "e5"), "x"), handle(8))
	wantSplit(t, n, handle(9), left, right, "c")
	wantSplit(t, n, api.Handle{}, beside(left, api.Handle{}), right, "c")
	wantSplit(t, n, handle(8), beside(left, handle(8)), right, "c")
	odd := api.Handle{Slot: -1, Gen: math.MaxUint64}
	wantSplit(t, beside(n, odd), odd, beside(left, odd), beside(right, odd), "c")
	wantSplit(t, leaf("\x7f1", "\x802"), handle(9), beside(bounded(leaf("\x7f1"), "\x80"), handle(9)), leaf("\x802"), "\x80")
	wantSplit(t, bounded(leaf("b1"), "c"), handle(9), bounded(leaf("b1"), "c"), blnode.Node{}, "")
	wantSplit(t, leaf(), handle(9), leaf(), blnode.Node{}, "")
}

func TestSplitANodeThatIsNoLeaf(t *testing.T) { // P9.4
	kids := inner(letters(6)...).Kids
	right := func(from int, keys ...string) blnode.Node { return blnode.Node{Keys: keys, Kids: kids[from:]} }
	wantSplit(t, inner("a", "b", "c"), handle(9), beside(bounded(inner("a"), "b"), handle(9)), blnode.Node{Keys: []string{"c"}, Kids: kids[2:4]}, "b")
	wantSplit(t, inner("a", "b", "c", "d"), handle(9), beside(bounded(inner("a", "b"), "c"), handle(9)), blnode.Node{Keys: []string{"d"}, Kids: kids[3:5]}, "c")
	wantSplit(t, inner("a", "b", "c", "d", "e"), handle(9), beside(bounded(inner("a", "b"), "c"), handle(9)), blnode.Node{Keys: []string{"d", "e"}, Kids: kids[3:6]}, "c")
	n := beside(bounded(inner(letters(6)...), "x"), handle(8))
	wantSplit(t, n, handle(9), beside(bounded(inner("a", "b", "c"), "d"), handle(9)), beside(bounded(right(4, "e", "f"), "x"), handle(8)), "d")
	wantSplit(t, n, api.Handle{}, bounded(inner("a", "b", "c"), "d"), beside(bounded(right(4, "e", "f"), "x"), handle(8)), "d")
	for k := range 3 {
		few := beside(bounded(inner(letters(k)...), "x"), handle(8))
		wantSplit(t, few, handle(9), few, blnode.Node{}, "")
		wantSplit(t, inner(letters(k)...), handle(9), inner(letters(k)...), blnode.Node{}, "")
	}
}

// wantItself wants that nothing of key can be done to n.
func wantItself(t *testing.T, n blnode.Node, key string) {
	t.Helper()
	wantPut(t, n, key, "9", n, "", false)
	wantDelete(t, n, key, n, "", false)
	wantAdd(t, n, key, handle(9), n)
}

func TestANodeThatIsNotRightIsAnsweredItself(t *testing.T) { // P9.3, P9.4
	for _, n := range wrongNodes() {
		for _, key := range []string{"", "a", "aa", "b", "c", "\xff"} {
			wantItself(t, n, key)
		}
		wantSplit(t, n, handle(9), n, blnode.Node{}, "")
	}
}

func TestWrongNodesWithManyKeysAreNotSplit(t *testing.T) { // P9.4
	for k := 2; k < 8; k++ {
		short, long, high, turned := leafOf(k), inner(letters(k)...), leafOf(k), inner(letters(k)...)
		short.Values = short.Values[1:]
		long.Kids = append(long.Kids, handle(9))
		high.High = "z"
		slices.Reverse(turned.Keys)
		for _, n := range []blnode.Node{short, long, high, turned, bounded(leafOf(k), "b"), bounded(inner(letters(k)...), letters(k)[k-1])} {
			wantSplit(t, n, handle(9), n, blnode.Node{}, "")
		}
	}
}

func TestAKeyThatIsNotCovered(t *testing.T) { // P9.3
	for _, key := range []string{"e", "e\x00", "f", "\x80", "\xff"} {
		wantItself(t, beside(bounded(leaf("b1", "d2"), "e"), handle(8)), key)
		wantItself(t, beside(bounded(inner("b", "d"), "e"), handle(8)), key)
	}
	wantItself(t, bounded(leaf(), ""), "")
	wantItself(t, bounded(inner(), ""), "")
}

func TestALeafAndOneThatIsNone(t *testing.T) { // P9.3
	for k := range 7 {
		for _, key := range []string{"", "a", "b", "bb", "\xff"} {
			for _, n := range []blnode.Node{inner(letters(k)...), bounded(inner(letters(k)...), "z")} {
				wantPut(t, n, key, "9", n, "", false)
				wantDelete(t, n, key, n, "", false)
			}
			wantAdd(t, leafOf(k), key, handle(9), leafOf(k))
			wantAdd(t, bounded(leafOf(k), "z"), key, handle(9), bounded(leafOf(k), "z"))
		}
	}
}
