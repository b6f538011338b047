package perm_test

import (
	"slices"
	"testing"

	"marshalling/perm"
	"marshalling/testrows"
)

// model is the chapter's words without bits: the slots by their ranks, and the free ones in their row.
type model struct{ used, free []int }

func newModel() model {
	m := model{}
	for slot := range 15 {
		m.free = append(m.free, slot)
	}
	return m
}

// modelOf is what a right word stands for.
func modelOf(p uint64) model {
	m := model{}
	for i := range 15 {
		if slot := digitAt(p, i+1); i < digitAt(p, 0) {
			m.used = append(m.used, slot)
		} else {
			m.free = append(m.free, slot)
		}
	}
	return m
}

func (m model) word() uint64 { return wordOf(len(m.used), slices.Concat(m.used, m.free)) }

func (m model) insert(i int) (model, int, bool) {
	if len(m.free) == 0 || i < 0 || i > len(m.used) {
		return m, -1, false
	}
	slot := m.free[0]
	return model{slices.Insert(slices.Clone(m.used), i, slot), m.free[1:]}, slot, true
}

func (m model) remove(i int) (model, int, bool) {
	if i < 0 || i >= len(m.used) {
		return m, -1, false
	}
	slot := m.used[i]
	return model{slices.Delete(slices.Clone(m.used), i, i+1), slices.Insert(slices.Clone(m.free), 0, slot)}, slot, true
}

// both are a word and its model, to which the same is done.
type both struct {
	p uint64
	m model
}

func (two *both) insert(t *testing.T, i int) {
	t.Helper()
	to, slot, ok := two.m.insert(i)
	wantInsert(t, two.p, i, to.word(), slot, ok)
	two.p, _, _ = perm.Insert(two.p, i)
	two.m = to
	two.want(t)
}

func (two *both) remove(t *testing.T, i int) {
	t.Helper()
	to, slot, ok := two.m.remove(i)
	wantRemove(t, two.p, i, to.word(), slot, ok)
	two.p, _, _ = perm.Remove(two.p, i)
	two.m = to
	two.want(t)
}

// want holds all that is told of the word against the model.
func (two *both) want(t *testing.T) {
	t.Helper()
	p := two.p
	wantRight(t, p, true)
	if n := perm.Len(p); n != len(two.m.used) {
		t.Errorf("Len(%x) = %d, want %d", p, n, len(two.m.used))
	}
	for i, slot := range slices.Concat(two.m.used, two.m.free) {
		wantAt(t, p, i, slot)
	}
	i := 0
	for rank, slot := range perm.All(p) {
		if rank != i || i >= len(two.m.used) || slot != two.m.used[i] {
			t.Errorf("All(%x) tells %d, %d", p, rank, slot)
		}
		i++
	}
	if i != len(two.m.used) {
		t.Errorf("All(%x) tells %d ranks, want %d", p, i, len(two.m.used))
	}
	if t.Failed() {
		t.FailNow()
	}
}

func TestEachRankOfEachWordIsAsTheModel(t *testing.T) { // P13.1 to P13.4
	for _, p := range rightWords() {
		for i := -2; i <= 17; i++ {
			two := both{p, modelOf(p)}
			two.insert(t, i)
			two = both{p, modelOf(p)}
			two.remove(t, i)
		}
	}
}

func TestShortRowsAreAsTheModel(t *testing.T) { // P13.1 to P13.4
	// A call below 100 inserts at that rank; one above it removes from the rank less 100.
	calls := []int{0, 1, 2, 3, 100, 101, 102}
	for _, count := range []int{0, 1, 7, 13, 15} {
		testrows.Each(4, calls, func(row []int) {
			two := both{perm.Empty(), newModel()}
			for i := range count {
				two.insert(t, i/2)
			}
			for _, call := range row {
				if call < 100 {
					two.insert(t, call)
				} else {
					two.remove(t, call-100)
				}
			}
		})
	}
}

func TestLongRowsAreAsTheModel(t *testing.T) { // P13.1 to P13.4
	for seed := range uint64(20) {
		draw := testrows.Draws(seed)
		two := both{perm.Empty(), newModel()}
		for i := range 1500 {
			// How often is inserted rises and falls, so that the word is full at times, and empty at times.
			if tide := i / 100 % 2 * 4; draw(8) < 2+tide {
				two.insert(t, draw(len(two.m.used)+2))
			} else {
				two.remove(t, draw(len(two.m.used)+1))
			}
		}
	}
}

func TestWhatIsInsertedAndRemovedAtOnce(t *testing.T) { // P13.4
	for _, p := range rightWords() {
		for i := 0; i <= digitAt(p, 0) && digitAt(p, 0) < 15; i++ {
			to, slot, ok := perm.Insert(p, i)
			if !ok || to == p {
				t.Fatalf("Insert(%x, %d) = %x, %t", p, i, to, ok)
			}
			wantRemove(t, to, i, p, slot, true)
		}
	}
}

func TestWhatIsRemovedAndInsertedAtOnce(t *testing.T) { // P13.2, P13.4
	for _, p := range rightWords() {
		for i := range digitAt(p, 0) {
			to, slot, ok := perm.Remove(p, i)
			if !ok || to == p {
				t.Fatalf("Remove(%x, %d) = %x, %t", p, i, to, ok)
			}
			wantInsert(t, to, i, p, slot, true)
		}
	}
}

// owners are things by their ranks, each of which has put its number into the slot that it was given.
type owners struct {
	p     uint64
	ranks []int
	slots [15]int
}

func (o *owners) insert(thing, i int) {
	if to, slot, ok := perm.Insert(o.p, i); ok {
		o.p, o.slots[slot] = to, thing
		o.ranks = slices.Insert(o.ranks, i, thing)
	}
}

func (o *owners) remove(i int) {
	if to, _, ok := perm.Remove(o.p, i); ok {
		o.p = to
		o.ranks = slices.Delete(o.ranks, i, i+1)
	}
}

// want holds what stands in the slots in use against the things by their ranks.
func (o *owners) want(t *testing.T) {
	t.Helper()
	var got []int
	for _, slot := range perm.All(o.p) {
		got = append(got, o.slots[slot])
	}
	if !perm.Right(o.p) || !slices.Equal(got, o.ranks) {
		t.Fatalf("%x: what stands in the slots is %v, want %v", o.p, got, o.ranks)
	}
}

func TestASlotInUseNeverBecomesAnothers(t *testing.T) { // P13.4
	for seed := range uint64(20) {
		draw := testrows.Draws(seed)
		o := &owners{p: perm.Empty()}
		for thing := range 1500 {
			if tide := thing / 100 % 2 * 4; draw(8) < 2+tide {
				o.insert(thing, draw(len(o.ranks)+1))
			} else if len(o.ranks) > 0 {
				o.remove(draw(len(o.ranks)))
			}
			o.want(t)
		}
	}
}

func TestAllSlotsAreTakenAndFreedInAnyRow(t *testing.T) { // P13.2, P13.4
	for seed := range uint64(50) {
		draw := testrows.Draws(seed)
		two := both{perm.Empty(), newModel()}
		for range 3 {
			for n := range 15 {
				two.insert(t, draw(n+1))
			}
			for n := range 15 {
				two.remove(t, draw(15-n))
			}
		}
	}
}
