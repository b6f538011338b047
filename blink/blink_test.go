package blink_test

import (
	"testing"

	"marshalling/api"
	"marshalling/arena"
	"marshalling/blink"
	"marshalling/testtrees"
)

func newPool(t *testing.T, slots int) *arena.Pool {
	t.Helper()
	p, e := arena.NewPool(slots)
	if e != api.OK {
		t.Fatalf("NewPool(%d): %d", slots, e)
	}
	return p
}

func newTree(t *testing.T, p *arena.Pool) *blink.Tree {
	t.Helper()
	x, e := blink.New(p)
	if x == nil || e != api.OK {
		t.Fatalf("New: %v, %d", x, e)
	}
	return x
}

func kind() testtrees.Kind {
	return testtrees.Kind{New: func(p *arena.Pool) (testtrees.Tree, api.Errno) { return blink.New(p) }}
}

// treeOf is one of a pool of its own, with the keys put in their row; each key's value is v and the key.
func treeOf(t *testing.T, keys ...string) (*blink.Tree, *arena.Pool) {
	t.Helper()
	p := newPool(t, api.MaxSlots)
	x := newTree(t, p)
	for _, key := range keys {
		testtrees.WantPut(t, x, key, "v"+key, "", false, api.OK)
	}
	return x, p
}

func TestTheDocumentsExamples(t *testing.T) { // P10.1 to P10.6
	x := newTree(t, newPool(t, 10))
	testtrees.WantPut(t, x, "b", "1", "", false, api.OK)
	testtrees.WantPut(t, x, "a", "2", "", false, api.OK)
	testtrees.WantPut(t, x, "b", "3", "1", true, api.OK)
	testtrees.WantGet(t, x, "b", "3", true)
	testtrees.WantGet(t, x, "c", "", false)
	if x.Len() != 2 || x.Slots() != 1 {
		t.Errorf("Len, Slots = %d, %d, want 2, 1", x.Len(), x.Slots())
	}
	testtrees.WantNext(t, x, "a", false, "a", "2", true)
	testtrees.WantNext(t, x, "a", true, "b", "3", true)
	testtrees.WantNext(t, x, "b", true, "", "", false)
	testtrees.WantDelete(t, x, "a", "2", true)
	testtrees.WantDelete(t, x, "a", "", false)
	testtrees.WantAll(t, x, map[string]string{"b": "3"})
	for _, key := range []string{"c", "d", "e", "f", "g"} {
		testtrees.WantPut(t, x, key, "5", "", false, api.OK)
	}
	if x.Slots() != 3 || !x.Check() {
		t.Errorf("Slots, Check = %d, %v, want 3, true", x.Slots(), x.Check())
	}
	x.Drop()
	testtrees.WantAgain(t, x)
	testtrees.WantPut(t, x, "b", "1", "", false, api.ErrGone)
}

func TestNew(t *testing.T) { // P10.1
	kind().Fresh(t)
}

func TestNewWithoutASlot(t *testing.T) { // P10.1
	taken := newPool(t, 3)
	newTree(t, taken)
	newTree(t, taken)
	arena.New[int](taken).Alloc(7)
	for _, tell := range []struct {
		name string
		pool *arena.Pool
		want api.Errno
	}{
		{"nil", nil, api.ErrNil},
		{"full", taken, api.ErrFull},
		{"one that NewPool did not make", &arena.Pool{}, api.ErrFull},
	} {
		if x, e := blink.New(tell.pool); x != nil || e != tell.want {
			t.Errorf("New of a pool, %s: %v, %d, want %d", tell.name, x, e, tell.want)
		}
	}
	if taken.Live() != 3 {
		t.Errorf("%d slots are taken", taken.Live())
	}
}

func TestKeysOfAllKinds(t *testing.T) { // P10.2, P10.6
	kind().OddKeys(t)
}

func TestEveryOrderOfKeys(t *testing.T) { // P10.2, P10.3, P10.6
	for name, l := range testtrees.Orders(150) {
		t.Run(name, func(t *testing.T) { kind().Row(t, l) })
	}
}

func TestLeavesThatAreEmptyStay(t *testing.T) { // P10.2, P10.6
	l := testtrees.Orders(40)["rising"]
	for from := range l {
		for to := from; to <= len(l); to += 3 {
			h := kind().Hold(t, 50, l...)
			live := h.X.Slots()
			for _, key := range l[from:to] {
				h.Delete(key)
			}
			h.Want()
			h.WantRow()
			h.WantKeys(l...)
			if h.X.Slots() != live {
				t.Errorf("%d nodes, and %d when keys %d to %d are deleted", live, h.X.Slots(), from, to)
			}
			for _, key := range l[from:to] {
				h.Put(key, "again")
			}
			h.Want()
			if h.X.Slots() != live {
				t.Errorf("%d nodes, and %d when the keys are back", live, h.X.Slots())
			}
		}
	}
}

func TestKeysAtAnEnd(t *testing.T) { // P10.2: the fifth key splits the leaf, so that the third one is the left leaf's High
	h := kind().Hold(t, 10, "b", "d", "f", "h", "j")
	h.WantKeys("", "a", "b", "c", "d", "e", "e\xff", "f", "g", "h", "j", "k")
	for _, key := range []string{"f", "e\xff", "f\x00"} {
		h.Put(key, "new")
		h.WantKeys(key, "f")
		h.Want()
		h.Delete(key)
		h.Delete(key)
		h.WantKeys(key, "f")
		h.Want()
	}
}

func TestSeveralTreesInOnePool(t *testing.T) { // P10.3, P10.6
	kind().Several(t)
}

func TestDrop(t *testing.T) { // P10.3
	kind().Dropped(t)
}

func TestDroppedInAFullPool(t *testing.T) { // P10.2: of both errors ErrGone
	kind().DroppedInAFullPool(t)
}

func TestNoTree(t *testing.T) { // P10.5
	for _, x := range []*blink.Tree{nil, {}} {
		for range 2 {
			testtrees.WantNoTree(t, x, api.ErrNil, false)
			x.Drop() // it stays what it was: it was not there to be dropped
		}
	}
}

func TestAllIsWrittenOver(t *testing.T) { // R4
	kind().WrittenOver(t)
}
