package testtrees

import (
	"slices"
	"strconv"
	"strings"

	"marshalling/api"
	"marshalling/arena"
	"marshalling/testrows"
)

// Fresh makes new trees in pools with slots enough, and with just one.
func (k Kind) Fresh(t Test) {
	t.Helper()
	for _, slots := range []int{1, 2, 10, api.MaxSlots} {
		h := k.Hold(t, slots)
		h.Want()
		if h.X.Slots() != 1 {
			t.Errorf("a new tree takes %d slots", h.X.Slots())
		}
		h.WantKeys("", "a", "\xff")
		h.Delete("")
		h.Delete("a")
	}
}

// OddKeys puts odd keys and values, writes over them, and deletes them, beginning with each in turn.
func (k Kind) OddKeys(t Test) {
	t.Helper()
	l := Odd()
	for turn := range l {
		h := k.Hold(t, 2*len(l))
		for i := range l {
			h.Put(l[(i+turn)%len(l)], l[(i*5+turn)%len(l)])
			h.Want()
		}
		for _, key := range l {
			h.WantKeys(key)
			h.Put(key, "new")
			h.WantKeys(key)
			h.Delete(key)
			h.Delete(key)
			h.WantKeys(key)
			h.Want()
		}
	}
}

// Row puts and deletes the keys in their row.
func (k Kind) Row(t Test, l []string) {
	t.Helper()
	h := k.Hold(t, 2*len(l))
	for _, key := range l {
		h.Put(key, "v"+key)
		h.Want()
	}
	h.WantKeys(l...)
	h.WantRow()
	for n, key := range l {
		h.Delete(key)
		h.WantKeys(key)
		if n%10 == 0 {
			h.Want()
			h.WantRow()
		}
	}
	h.Want()
}

// Orders puts the keys in every row that there is of them.
func (k Kind) Orders(t Test, l []string) {
	t.Helper()
	var rows func(put []string)
	rows = func(put []string) {
		if len(put) < len(l) {
			for _, key := range l {
				if !slices.Contains(put, key) {
					rows(append(slices.Clone(put), key))
				}
			}
			return
		}
		h := k.Hold(t, 2*len(l), put...)
		h.Want()
		h.WantKeys(l...)
		if t.Failed() {
			t.Fatalf("put in this row: %+q", put)
		}
	}
	rows(nil)
}

// ShortRows does every row of n writes of the keys l to a tree that has the first few of them.
func (k Kind) ShortRows(t Test, n int, l []string, few int) {
	t.Helper()
	var writes []api.Write
	for _, key := range l {
		writes = append(writes, api.Write{Key: key}, api.Write{Key: key, Gone: true})
	}
	testrows.Each(n, writes, func(row []api.Write) {
		h := k.Hold(t, 2*len(l)+n, l[:few]...)
		for n, w := range row {
			if w.Gone {
				h.Delete(w.Key)
			} else {
				h.Put(w.Key, strings.Repeat("w", n))
			}
		}
		h.Want()
		h.WantKeys(l...)
		if t.Failed() {
			t.Fatalf("the row %v", row)
		}
	})
}

// LongRow does a drawn row of writes to a tree in a pool that may be too small for them, and drops it.
func (k Kind) LongRow(t Test, seed int) {
	t.Helper()
	draw := testrows.Draws(uint64(seed))
	h := k.Hold(t, 1+draw(60))
	for range 400 {
		key, value := testrows.Text(draw, 3), testrows.Text(draw, 3)
		switch draw(4) {
		case 0, 1:
			h.TryPut(key, value)
		case 2:
			h.Delete(key)
		case 3:
			h.WantKeys(key)
		}
		h.Want()
		if t.Failed() {
			t.Fatalf("the row %d, at %q", seed, key)
		}
	}
	h.WantRow()
	h.WantKeys(h.keys()...)
	h.X.Drop()
	if h.Pool.Live() != 0 {
		t.Errorf("%d slots are taken behind Drop", h.Pool.Live())
	}
}

// TryPut puts a key for which there may be no room.
func (h *Held) TryPut(key, value string) {
	h.Helper()
	old, had := h.M[key]
	free, now := h.Pool.Free(), h.X.Slots()
	was, there, e := h.X.Put(key, value)
	if e == api.OK {
		h.M[key] = value
	}
	if e == api.ErrFull && (had || was != "" || there) || e == api.OK && (was != old || there != had) || e != api.OK && e != api.ErrFull {
		h.Errorf("Put(%q, %q) = %q, %v, %d, want %q, %v", key, value, was, there, e, old, had)
	}
	if e == api.ErrFull && (h.Pool.Free() != free || h.X.Slots() != now || h.fits(key)) {
		h.Errorf("Put(%q, %q) is not done; %d slots are free, ahead of it %d", key, value, h.Pool.Free(), free)
	}
}

// fits tells whether there are slots enough to put the key, as far as that is told by what the tree has.
func (h *Held) fits(key string) bool {
	if h.slots == nil {
		return false
	}
	return h.slots(append(h.keys(), key))-h.X.Slots() <= h.Pool.Free()
}

// Several has some trees in one pool, with numbers between them; one is dropped, and another one made.
func (k Kind) Several(t Test) {
	t.Helper()
	first := k.Hold(t, 500)
	p := first.Pool
	all := []*Held{first, k.HoldIn(t, p), k.HoldIn(t, p)}
	numbers := arena.New[int](p)
	for i := range 200 {
		all[i%3].Put(Key(i*37%200), strconv.Itoa(i))
		if i%20 == 0 {
			numbers.Alloc(i)
		}
		if live := all[0].X.Slots() + all[1].X.Slots() + all[2].X.Slots() + numbers.Live(); p.Live() != live {
			t.Fatalf("%d slots are taken by %d nodes and numbers", p.Live(), live)
		}
	}
	wantShared(all)
	dropped, live := all[1], p.Live()-all[1].X.Slots()
	dropped.X.Drop()
	if p.Live() != live || dropped.X.Slots() != 0 || numbers.Live() != 10 {
		t.Errorf("%d slots are taken, want %d, when one tree is dropped", p.Live(), live)
	}
	all[1] = k.HoldIn(t, p) // in slots that the dropped one had
	for i := range 100 {
		all[1].Put(Key(i), "new")
	}
	wantShared(all)
	WantAgain(t, dropped.X)
	dropped.X.Drop()
	wantShared(all)
}

func wantShared(all []*Held) {
	for _, h := range all {
		h.Helper()
		h.WantShared()
		h.WantRow()
	}
}

// Dropped drops trees with so many keys, again and again.
func (k Kind) Dropped(t Test) {
	t.Helper()
	for _, n := range []int{0, 1, 4, 5, 20, 100} {
		h := k.Hold(t, 210, Orders(100)["in strides"][:n]...)
		for range 3 {
			h.X.Drop()
			WantNoTree(t, h.X, api.ErrGone, true)
			if h.Pool.Free() != 210 {
				t.Errorf("dropped: %d slots are free, want 210", h.Pool.Free())
			}
		}
	}
}

// DroppedInAFullPool drops a tree whose slots others have then.
func (k Kind) DroppedInAFullPool(t Test) {
	t.Helper()
	h := k.Hold(t, 3)
	h.X.Drop()
	for range 3 {
		k.HoldIn(t, h.Pool)
	}
	WantNoTree(t, h.X, api.ErrGone, true)
	h.X.Drop()
	if h.Pool.Live() != 3 {
		t.Errorf("a tree that is dropped twice gives another one's slots back: %d of 3 are taken", h.Pool.Live())
	}
}

// WantNoTree wants that a tree that is not there, or not there any more, tells so.
func WantNoTree(t Test, x Tree, e api.Errno, check bool) {
	t.Helper()
	WantAgain(t, x)
	for _, key := range []string{"", "a", Key(0), Key(99)} {
		WantPut(t, x, key, "v", "", false, e)
		WantDelete(t, x, key, "", false)
	}
	if x.Len() != 0 || x.Slots() != 0 || len(x.All()) != 0 || x.Check() != check {
		t.Errorf("Len, Slots, All, Check = %d, %d, %v, %v, want 0, 0, none, %v", x.Len(), x.Slots(), x.All(), x.Check(), check)
	}
}

// WrittenOver writes over what All tells, and to the tree behind it.
func (k Kind) WrittenOver(t Test) {
	t.Helper()
	h := k.Hold(t, 60, Orders(30)["in strides"]...)
	all := h.X.All()
	for i := range all[:cap(all)] {
		all[:cap(all)][i] = api.Pair{Key: "over", Value: "over"}
	}
	h.Want()
	all = h.X.All()
	h.X.Put(Key(0), "new")
	h.X.Delete(Key(1))
	h.X.Drop()
	if !slices.Equal(all, Sorted(h.M)) {
		t.Errorf("what was told changes with the tree: %v", all)
	}
}
