package blnode_test

import (
	"maps"
	"slices"
	"strings"
	"testing"

	"marshalling/api"
	"marshalling/blnode"
	"marshalling/testrows"
)

// alphabet are keys of which some begin others, and bytes of 128 and more.
func alphabet() []string { return []string{"", "a", "a\x00", "b", "\x7f", "\x80"} }

// probes are the alphabet's keys, those right behind them, and some above all.
func probes() []string {
	l := []string{"\xff", "\xff\xff"}
	for _, key := range alphabet() {
		l = append(l, key, key+"\x00")
	}
	return l
}

// ends are none (told by nothing), and such as are a key of the alphabet, behind one, and above all.
func ends() [][]string {
	l := [][]string{nil, {"\xff"}}
	for _, key := range alphabet() {
		l = append(l, []string{key}, []string{key + "\x00"})
	}
	return l
}

// limited is n with that end, if it is one.
func limited(n blnode.Node, end []string) blnode.Node {
	if len(end) == 0 {
		return n
	}
	return bounded(n, end[0])
}

// model is what a node has: of a leaf each key's value, of another one each separator's kid behind it, and the first kid.
type model struct {
	leaf  bool
	value map[string]string
	kid   map[string]api.Handle
	first api.Handle
	end   []string
	next  api.Handle
}

func (m model) keys() []string {
	if m.leaf {
		return slices.Sorted(maps.Keys(m.value))
	}
	return slices.Sorted(maps.Keys(m.kid))
}

func (m model) node() blnode.Node {
	n := limited(blnode.Node{Leaf: m.leaf, Keys: m.keys(), Next: m.next}, m.end)
	if !m.leaf {
		n.Kids = []api.Handle{m.first}
	}
	for _, key := range n.Keys {
		if m.leaf {
			n.Values = append(n.Values, m.value[key])
		} else {
			n.Kids = append(n.Kids, m.kid[key])
		}
	}
	return n
}

func (m model) copied() model {
	m.value, m.kid = maps.Clone(m.value), maps.Clone(m.kid)
	return m
}

func (m model) covers(key string) bool { return len(m.end) == 0 || key < m.end[0] }

// kidOf is the kid behind the greatest separator that is not above key.
func (m model) kidOf(key string) api.Handle {
	kid, best := m.first, ""
	for sep, k := range m.kid {
		if sep <= key && (sep >= best || kid == m.first) {
			kid, best = k, sep
		}
	}
	return kid
}

// everyModel goes over all nodes of keys of the alphabet, with every end above them.
func everyModel(do func(m model)) {
	l := alphabet()
	for set := range 1 << len(l) {
		for _, leaf := range []bool{true, false} {
			for _, end := range ends() {
				m := model{leaf: leaf, value: map[string]string{}, kid: map[string]api.Handle{}, first: handle(1), end: end, next: handle(50)}
				within := true
				for k, key := range l {
					if set>>k&1 == 1 {
						m.value[key], m.kid[key] = strings.Repeat("v", k), handle(k+2)
						within = within && m.covers(key)
					}
				}
				if within {
					do(m)
				}
			}
		}
	}
}

func TestEveryNodeIsReadAsTheModel(t *testing.T) { // P9.1, P9.2
	everyModel(func(m model) {
		n, l := m.node(), m.keys()
		if !n.Right() || n.Full() != (len(l) > 4) {
			t.Errorf("Right, Full of %s: %v, %v", told(n), n.Right(), n.Full())
		}
		for _, key := range probes() {
			if n.Covers(key) != m.covers(key) {
				t.Errorf("%s covers %q: %v", told(n), key, n.Covers(key))
			}
			i := 0
			for _, k := range l {
				if strings.Compare(k, key) < 0 {
					i++
				}
			}
			wantFind(t, n, key, i, slices.Contains(l, key))
			if !m.leaf && m.covers(key) {
				wantKid(t, n, key, m.kidOf(key), true)
			} else {
				wantKid(t, n, key, api.Handle{}, false)
			}
		}
	})
}

// holdRight wants that n, which is the answer of something, is right, and covers as much as the model.
func holdRight(t *testing.T, n blnode.Node, m model) {
	t.Helper()
	if !n.Right() {
		t.Errorf("not right any more: %s", told(n))
	}
	for _, key := range probes() {
		if n.Covers(key) != m.covers(key) {
			t.Errorf("%s covers %q: %v", told(n), key, n.Covers(key))
		}
	}
}

func TestEveryNodeBecomesWhatTheModelDoes(t *testing.T) { // P9.3, P9.6
	everyModel(func(m model) {
		n := m.node()
		for _, key := range probes() {
			put, gone, added := m.copied(), m.copied(), m.copied()
			old, had := "", false
			if m.leaf && m.covers(key) {
				old, had = m.value[key], slices.Contains(m.keys(), key)
				put.value[key] = "new"
				delete(gone.value, key)
			}
			if !m.leaf && m.covers(key) && !slices.Contains(m.keys(), key) {
				added.kid[key] = handle(99)
			}
			wantPut(t, n, key, "new", put.node(), old, had)
			wantDelete(t, n, key, gone.node(), old, had)
			wantAdd(t, n, key, handle(99), added.node())
			to, _, _ := n.Put(key, "new")
			holdRight(t, to, m)
			to, _, _ = n.Delete(key)
			holdRight(t, to, m)
			holdRight(t, n.Add(key, handle(99)), m)
		}
	})
}

// valueOf is what the leaf has for key.
func valueOf(n blnode.Node, key string) (string, bool) {
	i, is := n.Find(key)
	if !is {
		return "", false
	}
	return n.Values[i], true
}

func TestWhatIsPutIsFound(t *testing.T) { // P9.6
	everyModel(func(m model) {
		if !m.leaf {
			return
		}
		n := m.node()
		for _, key := range probes() {
			if !m.covers(key) {
				continue
			}
			put, _, _ := n.Put(key, "new")
			gone, _, _ := put.Delete(key)
			if got, is := valueOf(put, key); got != "new" || !is {
				t.Errorf("%q is put into %s: %q, %v", key, told(n), got, is)
			}
			if _, is := valueOf(gone, key); is {
				t.Errorf("%q, deleted, is in %s", key, told(gone))
			}
			for _, other := range probes() {
				was, is := valueOf(n, other)
				for _, to := range []blnode.Node{put, gone} {
					if got, found := valueOf(to, other); other != key && (got != was || found != is) {
						t.Errorf("%q changes %q: %s to %s", key, other, told(n), told(to))
					}
				}
			}
		}
	})
}

func TestEverySplit(t *testing.T) { // P9.4, P9.6
	everyModel(func(m model) {
		n, k := m.node(), len(m.keys())
		left, right, sep := n.Split(handle(77))
		if m.leaf && k < 2 || !m.leaf && k < 3 {
			if !same(left, n) || !same(right, blnode.Node{}) || sep != "" {
				t.Errorf("%s is split: %s, %s, %q", told(n), told(left), told(right), sep)
			}
			return
		}
		if sep != m.keys()[k/2] || !left.Right() || !right.Right() || left.Leaf != m.leaf || right.Leaf != m.leaf {
			t.Errorf("the halves of %s: %s, %s, %q", told(n), told(left), told(right), sep)
		}
		if left.Next != handle(77) || !left.Bounded || left.High != sep || right.Next != n.Next || right.Bounded != n.Bounded || right.High != n.High {
			t.Errorf("the ends of the halves of %s: %s, %s", told(n), told(left), told(right))
		}
		kept := k
		if !m.leaf {
			kept-- // sep is in neither half
		}
		if len(left.Keys) != k/2 || len(left.Keys)+len(right.Keys) != kept {
			t.Errorf("the keys of the halves of %s: %s, %s", told(n), told(left), told(right))
		}
		for _, key := range probes() {
			holdHalves(t, n, left, right, sep, key)
		}
	})
}

// holdHalves wants that the half that key belongs to tells of it what n did.
func holdHalves(t *testing.T, n, left, right blnode.Node, sep, key string) {
	t.Helper()
	half := right
	if strings.Compare(key, sep) < 0 {
		half = left
	}
	if half.Covers(key) != n.Covers(key) || left.Covers(key) != (strings.Compare(key, sep) < 0) {
		t.Errorf("%q of the halves of %s: covered %v, %v", key, told(n), left.Covers(key), right.Covers(key))
	}
	if n.Leaf {
		was, is := valueOf(n, key)
		if got, found := valueOf(half, key); got != was || found != is {
			t.Errorf("%q of the halves of %s: %q, %v", key, told(n), got, found)
		}
		return
	}
	kid, ok := n.Kid(key)
	wantKid(t, half, key, kid, ok)
}

// someTexts are all lists of at most n keys, whether they rise or not.
func someTexts(n int) [][]string {
	all := [][]string{nil}
	last := all
	for range n {
		var next [][]string
		for _, l := range last {
			for _, key := range []string{"", "a", "\x80"} {
				next = append(next, append(slices.Clone(l), key))
			}
		}
		all = append(all, next...)
		last = next
	}
	return all
}

// rightByWords is the document's sentence said once more.
func rightByWords(n blnode.Node) bool {
	for i, a := range n.Keys {
		for _, b := range n.Keys[i+1:] {
			if strings.Compare(a, b) >= 0 {
				return false
			}
		}
		if n.Bounded && strings.Compare(a, n.High) >= 0 {
			return false
		}
	}
	if n.Leaf && (len(n.Values) != len(n.Keys) || len(n.Kids) > 0) {
		return false
	}
	if !n.Leaf && (len(n.Values) > 0 || len(n.Kids) != len(n.Keys)+1) {
		return false
	}
	return n.Bounded || n.High == ""
}

func TestEveryShortNodeIsRightOrItself(t *testing.T) { // P9.1, P9.2, P9.3, P9.4
	values, kids := []string{"1", "2", "3", "4"}, []api.Handle{handle(1), handle(2), handle(3), handle(4), handle(5)}
	for _, keys := range someTexts(3) {
		for shape := range 5 * 6 * 2 * 2 * 4 {
			n := blnode.Node{Keys: keys, Values: values[:shape%5], Kids: kids[:shape/5%6], Leaf: shape/30%2 == 1, Bounded: shape/60%2 == 1}
			n.High, n.Next = []string{"", "a", "a\x00", "\xff"}[shape/120], handle(8)
			is := rightByWords(n)
			if n.Right() != is {
				t.Fatalf("%s is right: %v", told(n), n.Right())
			}
			if is {
				continue
			}
			for _, key := range []string{"", "a", "\xff"} {
				wantKid(t, n, key, api.Handle{}, false)
				wantItself(t, n, key)
			}
			wantSplit(t, n, handle(9), n, blnode.Node{}, "")
		}
	}
}

// level is a row of nodes, each the right neighbour of the one ahead of it; the place k has the handle of k+1.
type level struct {
	nodes []blnode.Node
	first int
}

// of is the place of the node that covers key, from left to right.
func (l *level) of(key string) int {
	k := l.first
	for !l.nodes[k].Covers(key) {
		k = l.nodes[k].Next.Slot - 1
	}
	return k
}

// set puts n into the place k, and splits it, if it is too full.
func (l *level) set(k int, n blnode.Node) (sep string, right api.Handle, split bool) {
	l.nodes[k] = n
	if !n.Full() {
		return "", api.Handle{}, false
	}
	to := handle(len(l.nodes) + 1)
	left, other, sep := n.Split(to)
	l.nodes[k] = left
	l.nodes = append(l.nodes, other)
	return sep, to, true
}

// holdLevel wants that each node is right, not too full, and ends where the next one begins; keys are those that stand there, from left to right.
func (l *level) holdLevel(t *testing.T) (keys []string) {
	t.Helper()
	begin, seen := "", 0
	for at := handle(l.first + 1); at != (api.Handle{}); at = l.nodes[at.Slot-1].Next {
		n := l.nodes[at.Slot-1]
		if !n.Right() || n.Full() || n.Bounded != (n.Next != api.Handle{}) {
			t.Errorf("in a row: %s", told(n))
		}
		if len(n.Keys) > 0 && n.Keys[0] < begin {
			t.Errorf("%s begins ahead of %q", told(n), begin)
		}
		keys, begin = append(keys, n.Keys...), n.High
		seen++
	}
	if seen != len(l.nodes) {
		t.Errorf("%d of %d nodes are reached", seen, len(l.nodes))
	}
	return keys
}

func TestRowsOfNodesGrow(t *testing.T) { // P9.3, P9.4, P9.6
	for seed := range 100 {
		draw := testrows.Draws(uint64(seed))
		leaves, above := &level{nodes: []blnode.Node{{Leaf: true}}}, &level{nodes: []blnode.Node{inner()}}
		want := map[string]string{}
		for range 200 {
			key, value := testrows.Text(draw, 3), testrows.Text(draw, 3)
			kid, ok := above.nodes[above.of(key)].Kid(key)
			at := leaves.of(key)
			if !ok || kid != handle(at+1) {
				t.Fatalf("the kid of %q is %v, %v, want %d", key, kid, ok, at+1)
			}
			was, is := want[key]
			if draw(4) == 0 {
				to, old, had := leaves.nodes[at].Delete(key)
				leaves.nodes[at] = to
				delete(want, key)
				if old != was || had != is {
					t.Errorf("Delete(%q): %q, %v, want %q, %v", key, old, had, was, is)
				}
				continue
			}
			to, old, had := leaves.nodes[at].Put(key, value)
			want[key] = value
			if old != was || had != is {
				t.Errorf("Put(%q): %q, %v, want %q, %v", key, old, had, was, is)
			}
			if sep, right, split := leaves.set(at, to); split {
				up := above.of(sep)
				above.set(up, above.nodes[up].Add(sep, right))
			}
		}
		above.holdLevel(t)
		if got := leaves.holdLevel(t); !slices.Equal(got, slices.Sorted(maps.Keys(want))) {
			t.Errorf("the leaves have %q, want %q", got, slices.Sorted(maps.Keys(want)))
		}
		for key, value := range want {
			if got, is := valueOf(leaves.nodes[leaves.of(key)], key); got != value || !is {
				t.Errorf("%q: %q, %v, want %q", key, got, is, value)
			}
		}
		if t.Failed() {
			t.Fatalf("the row of the seed %d", seed)
		}
	}
}
