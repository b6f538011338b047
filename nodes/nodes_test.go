package nodes_test

import (
	"testing"

	"marshalling/api"
	"marshalling/arena"
	"marshalling/nodes"
)

// newNodes are some in a pool of so many slots, with a root x.
func newNodes(t *testing.T, slots int) (*nodes.Nodes[string], *arena.Pool) {
	t.Helper()
	p, _ := arena.NewPool(slots)
	l, e := nodes.New(p, "x")
	if l == nil || e != api.OK {
		t.Fatalf("New: %v, %d", l, e)
	}
	return l, p
}

func wantNode(t *testing.T, l *nodes.Nodes[string], h api.Handle, want string) {
	t.Helper()
	at, ok := l.At(h)
	look, is := l.Look(h, nil)
	if !ok || !is || at != look || *at != want {
		t.Errorf("At, Look of %v: %v, %v, %v, %v, want %q", h, at, ok, look, is, want)
	}
}

func TestNew(t *testing.T) {
	l, p := newNodes(t, 3)
	if l.State() != api.OK || l.Count() != 1 || p.Live() != 1 || l.Room(3) || !l.Room(2) {
		t.Errorf("State, Count = %d, %d; %d slots are taken; there is room for 3: %v", l.State(), l.Count(), p.Live(), l.Room(3))
	}
	wantNode(t, l, l.Root(), "x")
	full, _ := newNodes(t, 1)
	if full.Room(1) || !full.Room(0) {
		t.Error("there is room in a full pool")
	}
}

func TestNewWithoutASlot(t *testing.T) {
	_, full := newNodes(t, 1)
	for _, p := range []*arena.Pool{nil, full} {
		if l, e := nodes.New(p, "x"); l != nil || e != api.ErrFull {
			t.Errorf("New: %v, %d, want ErrFull", l, e)
		}
	}
}

func TestAddRaiseAndRelease(t *testing.T) {
	l, p := newNodes(t, 3)
	first := l.Root()
	y, place := l.Add("y")
	*place += "z"
	wantNode(t, l, y, "yz")
	if l.Count() != 2 || l.Root() != first {
		t.Errorf("Count, Root = %d, %v", l.Count(), l.Root())
	}
	l.Raise(y)
	l.Release(first)
	if l.Root() != y || l.Count() != 1 || p.Live() != 1 {
		t.Errorf("Root, Count = %v, %d; %d slots are taken", l.Root(), l.Count(), p.Live())
	}
	if at, ok := l.At(first); at != nil || ok {
		t.Errorf("At of a handle that is dead: %v, %v", at, ok)
	}
	l.Add("a")
	l.Add("b")
	if h, at := l.Add("c"); h != (api.Handle{}) || at != nil || l.Count() != 3 {
		t.Errorf("Add to a full pool: %v, %v; %d nodes", h, at, l.Count())
	}
}

func TestLookIsBehindTheVisit(t *testing.T) {
	l, _ := newNodes(t, 3)
	h, _ := l.Add("y")
	if at, ok := l.Look(h, func() { l.Release(h) }); at != nil || ok {
		t.Errorf("a node that is released in the visit: %v, %v", at, ok)
	}
	if at, ok := l.Look(api.Handle{Slot: h.Slot, Gen: h.Gen + 1}, func() { l.Add("new") }); !ok || *at != "new" {
		t.Errorf("a node that is added in the visit: %v, %v", at, ok)
	}
}

func TestDrop(t *testing.T) {
	l, p := newNodes(t, 3)
	root := l.Root()
	l.Add("y")
	for range 2 {
		l.Drop()
		if l.State() != api.ErrGone || l.Count() != 0 || p.Free() != 3 || l.Root() != (api.Handle{}) {
			t.Errorf("dropped: State, Count, Root = %d, %d, %v; %d slots are free", l.State(), l.Count(), l.Root(), p.Free())
		}
		for _, h := range []api.Handle{root, {}} {
			if at, ok := l.At(h); at != nil || ok {
				t.Errorf("dropped: At(%v) = %v, %v", h, at, ok)
			}
		}
	}
}

func TestNil(t *testing.T) {
	var l *nodes.Nodes[string]
	l.Drop()
	if l.State() != api.ErrNil || l.Count() != 0 {
		t.Errorf("State, Count = %d, %d", l.State(), l.Count())
	}
}
