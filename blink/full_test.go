package blink_test

import (
	"testing"

	"marshalling/api"
	"marshalling/testtrees"
)

func TestAPutHasJustTheSlotsItNeeds(t *testing.T) { // P10.2
	for name, l := range testtrees.Orders(120) {
		t.Run(name, func(t *testing.T) {
			if most := kind().Needs(t, l); most < 3 {
				t.Errorf("no Put needed more than %d slots", most)
			}
		})
	}
}

func TestWhatNeedsNoSlot(t *testing.T) { // P10.2: in a pool without a free slot
	kind().NeedsNone(t, testtrees.Orders(60)["rising"])
}

func TestSmallPools(t *testing.T) { // P10.2, P10.6
	for slots := 1; slots <= 30; slots++ {
		for name, l := range testtrees.Orders(200) {
			p := newPool(t, slots)
			x, m := newTree(t, p), map[string]string{}
			for _, key := range l {
				if old, had, e := x.Put(key, "v"); old != "" || had || e != api.OK && e != api.ErrFull {
					t.Errorf("Put(%q) = %q, %v, %d", key, old, had, e)
				} else if e == api.OK {
					m[key] = "v"
				}
			}
			testtrees.WantAll(t, x, m)
			if x.Slots() != p.Live() || len(m) < 4 || len(m) > 4*slots {
				t.Errorf("%s: in %d slots %d nodes for %d keys", name, slots, x.Slots(), len(m))
			}
			x.Drop()
			if p.Free() != slots {
				t.Errorf("%s: %d of %d slots are free", name, p.Free(), slots)
			}
		}
	}
}
