package testtrees

import (
	"maps"
	"slices"

	"marshalling/api"
	"marshalling/arena"
)

// Kind is a kind of trees.
type Kind struct {
	New   func(p *arena.Pool) (Tree, api.Errno)
	Slots func(keys []string) int // how many a tree with these keys takes; nil, if they do not tell it
}

// Held is a tree that is held against a map, to which the same is done.
type Held struct {
	Test
	X     Tree
	Pool  *arena.Pool
	M     map[string]string
	slots func(keys []string) int
}

// Hold is a new tree in a pool of its own with so many slots, in which the keys are put in their row; each one's value is v and the key.
func (k Kind) Hold(t Test, slots int, keys ...string) *Held {
	t.Helper()
	p, e := arena.NewPool(slots)
	if e != api.OK {
		t.Fatalf("NewPool(%d): %d", slots, e)
	}
	h := k.HoldIn(t, p)
	for _, key := range keys {
		h.Put(key, "v"+key)
	}
	return h
}

// HoldIn is a new tree in p.
func (k Kind) HoldIn(t Test, p *arena.Pool) *Held {
	t.Helper()
	x, e := k.New(p)
	if e != api.OK {
		t.Fatalf("New: %d", e)
	}
	return &Held{Test: t, X: x, Pool: p, M: map[string]string{}, slots: k.Slots}
}

// Put puts a key for which there is room.
func (h *Held) Put(key, value string) {
	h.Helper()
	old, had := h.M[key]
	WantPut(h, h.X, key, value, old, had, api.OK)
	h.M[key] = value
}

// Delete deletes a key, be it there or not.
func (h *Held) Delete(key string) {
	h.Helper()
	old, had := h.M[key]
	WantDelete(h, h.X, key, old, had)
	delete(h.M, key)
}

// Want wants of the tree what is told of all of it, and of its slots that nobody but it has any of its pool.
func (h *Held) Want() {
	h.Helper()
	h.WantShared()
	if h.X.Slots() != h.Pool.Live() {
		h.Errorf("it takes %d slots, of its pool %d are taken", h.X.Slots(), h.Pool.Live())
	}
}

// WantShared is Want, if others may have slots of the pool.
func (h *Held) WantShared() {
	h.Helper()
	WantAll(h, h.X, h.M)
	if h.slots != nil && h.X.Slots() != h.slots(h.keys()) {
		h.Errorf("with %+q it takes %d slots, want %d", h.keys(), h.X.Slots(), h.slots(h.keys()))
	}
}

// keys are those that the tree must have, rising.
func (h *Held) keys() []string { return slices.Sorted(maps.Keys(h.M)) }

// WantKeys wants that readers tell of each of the keys, and of what is right behind it, what the map does.
func (h *Held) WantKeys(keys ...string) {
	h.Helper()
	for _, key := range keys {
		WantEach(h, h.X, h.M, key)
		WantEach(h, h.X, h.M, key+"\x00")
	}
}

// WantRow wants that all keys are met by Next.
func (h *Held) WantRow() {
	h.Helper()
	WantRow(h, h.X, h.M)
}
