package artnode_test

import (
	"testing"

	"marshalling/artnode"
	"marshalling/testrows"
)

// model is the document's words, said once more without shapes.
type model struct {
	has    [256]bool
	things [256]int
	kind   int
}

func (m *model) count() int {
	n := 0
	for _, has := range m.has {
		if has {
			n++
		}
	}
	return n
}

func (m *model) set(b byte, x int) bool {
	had := m.has[b]
	if !had && m.count() == m.kind {
		m.kind = map[int]int{4: 16, 16: 48, 48: 256}[m.kind]
	}
	m.has[b], m.things[b] = true, x
	return !had
}

func (m *model) drop(b byte) bool {
	had := m.has[b]
	m.has[b], m.things[b] = false, 0
	few := m.count()
	switch {
	case !had:
	case m.kind == 16 && few <= 3:
		m.kind = 4
	case m.kind == 48 && few <= 12:
		m.kind = 16
	case m.kind == 256 && few <= 36:
		m.kind = 48
	}
	return had
}

func (m *model) from(b int) (byte, int, bool) {
	for at := range 256 {
		if at >= b && m.has[at] {
			return byte(at), m.things[at], true
		}
	}
	return 0, 0, false
}

func (m *model) all() []child[int] {
	var l []child[int]
	for b, has := range m.has {
		if has {
			l = append(l, child[int]{byte(b), m.things[b]})
		}
	}
	return l
}

// both are a node and its model, to which the same is done.
type both struct {
	n *artnode.Node[int]
	m *model
}

func newBoth(count int) both {
	two := both{artnode.New[int](), &model{kind: 4}}
	for i := range count {
		two.n.Set(byte(i*5), i)
		two.m.set(byte(i*5), i)
	}
	return two
}

func (two both) set(t *testing.T, b byte, x int) {
	t.Helper()
	if got, want := two.n.Set(b, x), two.m.set(b, x); got != want {
		t.Fatalf("Set(%d) = %t, want %t", b, got, want)
	}
}

func (two both) drop(t *testing.T, b byte) {
	t.Helper()
	if got, want := two.n.Drop(b), two.m.drop(b); got != want {
		t.Fatalf("Drop(%d) = %t, want %t", b, got, want)
	}
}

// want holds the whole node against its model.
func (two both) want(t *testing.T) {
	t.Helper()
	n, m := two.n, two.m
	wantSize(t, n, m.count(), m.kind)
	wantAll(t, n, m.all()...)
	for b := -1; b <= 256; b++ {
		at, x, ok := m.from(b)
		wantFrom(t, n, b, at, x, ok)
	}
	for b := range 256 {
		wantGet(t, n, byte(b), m.things[b], m.has[b])
	}
	if t.Failed() {
		t.FailNow()
	}
}

func TestShortRowsAreAsTheModel(t *testing.T) { // P11.1 to P11.3, P11.5
	// A call is a byte that is put, or, with 256 added, one that is taken away.
	calls := []int{0, 5, 255, 256 + 0, 256 + 5, 256 + 255}
	for _, count := range []int{0, 1, 3, 4, 5, 14, 16, 17, 46, 48, 49} {
		for length := range 5 {
			testrows.Each(length, calls, func(row []int) {
				two := newBoth(count)
				for i, call := range row {
					if call < 256 {
						two.set(t, byte(call), 1000+i)
					} else {
						two.drop(t, byte(call))
					}
				}
				wantSize(t, two.n, two.m.count(), two.m.kind)
				wantAll(t, two.n, two.m.all()...)
			})
		}
	}
}

func TestLongRowsAreAsTheModel(t *testing.T) { // P11.1 to P11.3, P11.5
	for seed := range uint64(40) {
		draw := testrows.Draws(seed)
		two := newBoth(0)
		for i := range 1500 {
			// How often is put rises and falls, so that all kinds are met, each from above and from below.
			if tide := i / 150 % 2 * 4; draw(8) < 2+tide {
				two.set(t, byte(draw(256)), i)
			} else if at, _, ok := two.n.From(draw(256)); ok {
				two.drop(t, at)
			} else {
				two.drop(t, byte(draw(256)))
			}
			if i%25 == 0 {
				two.want(t)
			}
		}
		two.want(t)
	}
}

func TestRowsAboutAKindsEnds(t *testing.T) { // P11.1, P11.5
	for _, about := range []int{3, 4, 12, 16, 36, 48} {
		draw := testrows.Draws(uint64(about))
		two := newBoth(0)
		for i := range 3000 {
			aim := about + draw(9) - 4
			if two.m.count() < aim {
				two.set(t, byte(draw(64)*4+draw(2)), i)
			} else if at, _, ok := two.n.From(draw(256)); ok {
				two.drop(t, at)
			}
			wantSize(t, two.n, two.m.count(), two.m.kind)
			if i%50 == 0 {
				two.want(t)
			}
		}
	}
}

func TestNodesGrowAndShrinkWholly(t *testing.T) { // P11.1 to P11.3, P11.5
	draw := testrows.Draws(11)
	two := newBoth(0)
	for i := range 6 {
		for two.m.count() < 256 {
			two.set(t, byte(draw(256)), draw(1000))
			two.want(t)
		}
		for two.m.count() > i {
			two.drop(t, byte(draw(256)))
			two.want(t)
		}
	}
}
