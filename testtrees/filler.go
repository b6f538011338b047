package testtrees

import (
	"slices"

	"marshalling/api"
	"marshalling/arena"
)

// Filler takes and gives back slots of a pool, so that it has as few as a test wants.
type Filler struct {
	pool *arena.Pool
	ones *arena.Arena[int]
}

// NewFiller is one that has taken none yet.
func NewFiller(p *arena.Pool) Filler { return Filler{p, arena.New[int](p)} }

// Leave makes just n slots of the pool free, unless others have taken too many.
func (f Filler) Leave(t Test, n int) {
	t.Helper()
	for f.pool.Free() > n {
		f.ones.Alloc(0)
	}
	for f.pool.Free() < n {
		l := f.ones.Handles()
		if len(l) == 0 {
			t.Errorf("%d slots can't be free", n)
			return
		}
		f.ones.Release(l[0])
	}
}

// Needs puts the keys in their row, each one first with fewer free slots than it takes, then with just as many; and tells how many it were at the most.
func (k Kind) Needs(t Test, l []string) (most int) {
	t.Helper()
	twin := k.Hold(t, 2*len(l)) // it has room, and tells how many slots each key takes
	h := k.Hold(t, 2*len(l))
	f := NewFiller(h.Pool)
	for n, key := range l {
		now := twin.X.Slots()
		twin.Put(key, "v")
		needs := twin.X.Slots() - now
		most = max(most, needs)
		for less := 1; less <= needs; less++ {
			f.Leave(t, needs-less)
			WantFull(t, h.X, h.Pool, key, l[:n+1])
		}
		f.Leave(t, needs)
		h.Put(key, "v")
		if h.Pool.Free() != 0 || h.X.Slots() != twin.X.Slots() || !h.X.Check() {
			t.Errorf("Put(%q): %d slots are free, %d are taken, want %d", key, h.Pool.Free(), h.X.Slots(), twin.X.Slots())
		}
	}
	return most
}

// NeedsNone does to a tree with these keys, in a pool without a free slot, what needs none.
func (k Kind) NeedsNone(t Test, l []string) {
	t.Helper()
	h := k.Hold(t, 2*len(l), l...)
	NewFiller(h.Pool).Leave(t, 0)
	for _, key := range l {
		h.Put(key, "w")
		h.WantKeys(key)
	}
	for _, key := range l {
		h.Delete(key)
		h.Delete(key)
		h.Put(key, "x") // what it needs was given back, or is there still
		h.WantShared()
	}
	h.WantKeys(l...)
	for _, key := range l {
		h.Delete(key)
	}
	h.WantShared()
}

// WantFull wants that the pool is too full for key, which is not there, and that nothing changes, whoever tells of the tree or asks for one of l.
func WantFull(t Test, x Tree, p *arena.Pool, key string, l []string) {
	t.Helper()
	free := p.Free()
	pairs, counts := seen(x, l)
	WantPut(t, x, key, "v", "", false, api.ErrFull)
	after, now := seen(x, l)
	if !slices.Equal(after, pairs) || !slices.Equal(now, counts) || !x.Check() || p.Free() != free {
		t.Errorf("a Put of %q that is not done: %v, %v, %d free, then %v, %v, %d free", key, pairs, counts, free, after, now, p.Free())
	}
}

// seen is all that a tree tells: its keys, its nodes, and how many nodes a reader looks at.
func seen(x Tree, l []string) ([]api.Pair, []int) {
	counts := []int{x.Len(), x.Slots()}
	for _, key := range l {
		n := 0
		x.Get(key, func() { n++ })
		x.Next(key, true, func() { n++ })
		counts = append(counts, n)
	}
	return x.All(), counts
}
