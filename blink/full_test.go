package blink_test

import (
	"slices"
	"testing"

	"marshalling/api"
	"marshalling/arena"
	"marshalling/blink"
)

// filler takes and gives back slots of a pool.
type filler struct {
	pool *arena.Pool
	ones *arena.Arena[int]
}

// leave makes just n slots of the pool free.
func (f filler) leave(t *testing.T, n int) {
	t.Helper()
	for f.pool.Free() > n {
		f.ones.Alloc(0)
	}
	for f.pool.Free() < n {
		if l := f.ones.Handles(); len(l) == 0 || !f.ones.Release(l[0]) {
			t.Fatalf("%d slots can't be free", n)
		}
	}
}

func newFiller(p *arena.Pool) filler { return filler{p, arena.New[int](p)} }

// seen is all that a tree tells: its keys, its nodes, and how many nodes a reader looks at.
func seen(x *blink.Tree, l []string) ([]api.Pair, []int) {
	counts := []int{x.Len(), x.Slots()}
	for _, key := range l {
		n := 0
		x.Get(key, func() { n++ })
		x.Next(key, true, func() { n++ })
		counts = append(counts, n)
	}
	return x.All(), counts
}

// wantFull wants that the pool is too full for the key, and that nothing changes.
func wantFull(t *testing.T, x *blink.Tree, p *arena.Pool, key string, l []string) {
	t.Helper()
	free := p.Free()
	pairs, counts := seen(x, l)
	wantPut(t, x, key, "v", "", false, api.ErrFull)
	after, now := seen(x, l)
	if !slices.Equal(after, pairs) || !slices.Equal(now, counts) || !x.Check() || p.Free() != free {
		t.Errorf("a Put of %q that is not done: %v, %v, %d free, then %v, %v, %d free", key, pairs, counts, free, after, now, p.Free())
	}
}

func TestAPutHasJustTheSlotsItNeeds(t *testing.T) { // P10.2
	for name, l := range orders(120) {
		t.Run(name, func(t *testing.T) {
			twin, _ := treeOf(t) // it has room, and tells how many slots each key needs
			p := newPool(t, 200)
			f, x := newFiller(p), newTree(t, p)
			most := 0
			for n, key := range l {
				was := twin.Slots()
				twin.Put(key, "v")
				needs := twin.Slots() - was
				most = max(most, needs)
				for less := 1; less <= needs; less++ {
					f.leave(t, needs-less)
					wantFull(t, x, p, key, l[:n+1])
				}
				f.leave(t, needs)
				wantPut(t, x, key, "v", "", false, api.OK)
				if p.Free() != 0 || x.Slots() != twin.Slots() || !x.Check() {
					t.Errorf("Put(%q): %d slots are free, %d nodes, want %d", key, p.Free(), x.Slots(), twin.Slots())
				}
			}
			if most < 3 {
				t.Errorf("no Put needed more than %d slots", most)
			}
		})
	}
}

func TestWhatNeedsNoSlot(t *testing.T) { // P10.2: in a pool without a free slot
	p := newPool(t, 100)
	f, x := newFiller(p), newTree(t, p)
	m := map[string]string{}
	for i := range 60 {
		x.Put(key(i), "v")
		m[key(i)] = "v"
	}
	f.leave(t, 0)
	for i := range 60 {
		wantPut(t, x, key(i), "w", "v", true, api.OK)
		m[key(i)] = "w"
		wantEach(t, x, m, key(i))
	}
	for i := range 60 {
		wantDelete(t, x, key(i), "w", true)
		wantDelete(t, x, key(i), "", false)
		wantPut(t, x, key(i), "x", "", false, api.OK) // its place is free
		m[key(i)] = "x"
	}
	wantAll(t, x, m)
	for i := range 60 {
		wantDelete(t, x, key(i), "x", true)
	}
	wantAll(t, x, nil)
	if p.Free() != 0 {
		t.Errorf("%d slots are free", p.Free())
	}
}

func TestSmallPools(t *testing.T) { // P10.2, P10.6
	for slots := 1; slots <= 30; slots++ {
		for name, l := range orders(200) {
			p := newPool(t, slots)
			x, m := newTree(t, p), map[string]string{}
			for _, key := range l {
				if old, had, e := x.Put(key, "v"); old != "" || had || e != api.OK && e != api.ErrFull {
					t.Errorf("Put(%q) = %q, %v, %d", key, old, had, e)
				} else if e == api.OK {
					m[key] = "v"
				}
			}
			wantAll(t, x, m)
			if x.Slots() != p.Live() || len(m) < 4 || len(m) > 4*slots {
				t.Errorf("%s: in %d slots %d nodes for %d keys", name, slots, x.Slots(), len(m))
			}
			x.Drop()
			if p.Free() != slots {
				t.Errorf("%s: %d of %d slots are free", name, p.Free(), slots)
			}
		}
	}
}
