package arena_test

import (
	"math"
	"slices"
	"testing"

	"marshalling/api"
	"marshalling/arena"
)

func handle(slot int, gen uint64) api.Handle { return api.Handle{Slot: slot, Gen: gen} }

func newPool(t *testing.T, n int) *arena.Pool {
	t.Helper()
	p, e := arena.NewPool(n)
	if e != api.OK || p == nil {
		t.Fatalf("NewPool(%d) = %v, %d", n, p, e)
	}
	return p
}

func put[T any](t *testing.T, a *arena.Arena[T], x T) api.Handle {
	t.Helper()
	h, e := a.Alloc(x)
	if e != api.OK {
		t.Fatalf("Alloc(%v): %d", x, e)
	}
	return h
}

func wantThing[T comparable](t *testing.T, a *arena.Arena[T], h api.Handle, want T) {
	t.Helper()
	if x, ok := a.Get(h); !ok || x == nil || *x != want {
		t.Errorf("Get(%v) = %v, %t, want %v", h, x, ok, want)
	}
}

// wantDead looks at a handle that is not alive: Get and Release say so, and Release changes nothing.
func wantDead[T any](t *testing.T, a *arena.Arena[T], h api.Handle) {
	t.Helper()
	before := a.Handles()
	if x, ok := a.Get(h); ok || x != nil {
		t.Errorf("Get(%v) = %v, %t of a dead handle", h, x, ok)
	}
	if a.Release(h) {
		t.Errorf("Release(%v) of a dead handle", h)
	}
	if after := a.Handles(); !slices.Equal(after, before) {
		t.Errorf("Release(%v) of a dead handle: %v, then %v", h, before, after)
	}
}

func wantPool(t *testing.T, p *arena.Pool, free, live int) {
	t.Helper()
	if p.Free() != free || p.Live() != live {
		t.Errorf("Free, Live = %d, %d, want %d, %d", p.Free(), p.Live(), free, live)
	}
}

func wantHandles[T any](t *testing.T, a *arena.Arena[T], want ...api.Handle) {
	t.Helper()
	if got := a.Handles(); !slices.Equal(got, want) {
		t.Errorf("Handles = %v, want %v", got, want)
	}
	if a.Live() != len(want) {
		t.Errorf("Live = %d, want %d", a.Live(), len(want))
	}
}

func TestTheDocumentsExamples(t *testing.T) { // P2.1 to P2.6
	p := newPool(t, 2)
	a, b := arena.New[string](p), arena.New[int](p)
	if h, e := a.Alloc("x"); h != handle(0, 1) || e != api.OK {
		t.Error(h, e)
	}
	if h, e := b.Alloc(7); h != handle(1, 1) || e != api.OK {
		t.Error(h, e)
	}
	if h, e := a.Alloc("y"); h != handle(0, 0) || e != api.ErrFull {
		t.Error(h, e)
	}
	wantPool(t, p, 0, 2)
	wantThing(t, a, handle(0, 1), "x")
	wantDead(t, b, handle(0, 1))
	wantDead(t, a, handle(0, 2))
	if !a.Release(handle(0, 1)) || a.Release(handle(0, 1)) {
		t.Error("Release is not true just once")
	}
	if h, e := b.Alloc(8); h != handle(0, 2) || e != api.OK {
		t.Error(h, e)
	}
	wantDead(t, a, handle(0, 1))
	wantThing(t, b, handle(0, 2), 8)
	wantHandles(t, a)
	wantHandles(t, b, handle(0, 2), handle(1, 1))
}

func TestNewPoolHasSoManySlots(t *testing.T) { // P2.1, P2.3
	for _, n := range []int{1, 2, 3, 63, 64, 65, 127, 128, 129, 4032, 4095, 4096} {
		p := newPool(t, n)
		wantPool(t, p, n, 0)
		a := arena.New[int](p)
		for i := range n {
			if h, e := a.Alloc(i); h != handle(i, 1) || e != api.OK {
				t.Fatalf("of %d slots: Alloc number %d = %v, %d", n, i, h, e)
			}
		}
		wantPool(t, p, 0, n)
		if h, e := a.Alloc(n); h != handle(0, 0) || e != api.ErrFull {
			t.Errorf("of %d slots: one more: %v, %d", n, h, e)
		}
		for i := range n {
			wantThing(t, a, handle(i, 1), i)
		}
	}
}

func TestNewPoolOfNoSize(t *testing.T) { // P2.1
	for _, n := range []int{0, -1, -64, -4096, 4097, 8192, 1 << 32, 1<<32 + 1, math.MinInt, math.MinInt + 1, math.MaxInt} {
		if p, e := arena.NewPool(n); p != nil || e != api.ErrArg {
			t.Errorf("NewPool(%d) = %v, %d", n, p, e)
		}
	}
}

func TestFreeLiveAndRoomWhileItFills(t *testing.T) { // P2.1
	const size = 130
	p := newPool(t, size)
	a := arena.New[int](p)
	look := func(live int) {
		t.Helper()
		free := size - live
		wantPool(t, p, free, live)
		for _, n := range []int{free, free - 1, 0, -1, -size, math.MinInt} {
			if !p.Room(n) {
				t.Errorf("%d are free, but there is no room for %d", free, n)
			}
		}
		for _, n := range []int{free + 1, size + 1, math.MaxInt} {
			if p.Room(n) {
				t.Errorf("%d are free, but there is room for %d", free, n)
			}
		}
	}
	look(0)
	var all []api.Handle
	for i := range size {
		all = append(all, put(t, a, i))
		look(i + 1)
	}
	a.Alloc(size)
	look(size)
	for i, h := range all {
		if !a.Release(h) {
			t.Fatalf("Release(%v)", h)
		}
		look(size - i - 1)
		a.Release(h)
		look(size - i - 1)
	}
}

func TestRoomTakesNothing(t *testing.T) { // P2.1
	p := newPool(t, 3)
	for range 10 {
		if !p.Room(3) || p.Room(4) {
			t.Error("Room of a pool of 3 free slots")
		}
	}
	wantPool(t, p, 3, 0)
}

func TestANilPool(t *testing.T) { // P2.1
	var p *arena.Pool
	wantPool(t, p, 0, 0)
	for _, n := range []int{0, 1, -1, math.MinInt, math.MaxInt} {
		if p.Room(n) {
			t.Errorf("a nil pool has room for %d", n)
		}
	}
}

func TestAPoolThatNewPoolDidNotMake(t *testing.T) { // R1
	p := new(arena.Pool)
	wantPool(t, p, 0, 0)
	if !p.Room(0) || !p.Room(-1) || p.Room(1) {
		t.Error("Room of a pool without slots")
	}
	if h, e := arena.New[int](p).Alloc(1); h != handle(0, 0) || e != api.ErrFull {
		t.Error(h, e)
	}
}

func TestNewArenasAreEmpty(t *testing.T) { // P2.2
	p := newPool(t, 2)
	a := arena.New[string](p)
	h := put(t, a, "x")
	b, c := arena.New[string](p), arena.New[[]int](p)
	wantHandles(t, a, h)
	wantHandles(t, b)
	wantHandles(t, c)
	wantDead(t, b, h)
	wantDead(t, c, h)
	wantPool(t, p, 1, 1)
}

func TestAnArenaOfANilPool(t *testing.T) { // P2.2
	for _, a := range []*arena.Arena[int]{arena.New[int](nil), new(arena.Arena[int])} {
		for range 3 {
			if h, e := a.Alloc(1); h != handle(0, 0) || e != api.ErrFull {
				t.Errorf("Alloc = %v, %d", h, e)
			}
		}
		for _, h := range []api.Handle{{}, handle(0, 1), handle(-1, 1), handle(5, 5)} {
			wantDead(t, a, h)
		}
		wantHandles(t, a)
	}
}

func TestANilArena(t *testing.T) { // P2.3, P2.5
	var a *arena.Arena[string]
	if h, e := a.Alloc("x"); h != handle(0, 0) || e != api.ErrNil {
		t.Errorf("Alloc = %v, %d", h, e)
	}
	for _, h := range []api.Handle{{}, handle(0, 1), handle(-1, 1), handle(math.MaxInt, math.MaxUint64)} {
		wantDead(t, a, h)
	}
	wantHandles(t, a)
}

func TestAllocTakesTheLeastFreeSlot(t *testing.T) { // P2.3
	const size = 200
	p := newPool(t, size)
	a, b := arena.New[int](p), arena.New[string](p)
	for i := range size {
		put(t, a, i)
	}
	freed := []int{199, 0, 64, 63, 128, 127, 5, 130, 65, 1}
	for _, slot := range freed {
		if !a.Release(handle(slot, 1)) {
			t.Fatalf("Release of slot %d", slot)
		}
	}
	slices.Sort(freed)
	for _, slot := range freed {
		if h := put(t, b, "again"); h != handle(slot, 2) {
			t.Errorf("Alloc = %v, want slot %d of generation 2", h, slot)
		}
	}
	if h, e := b.Alloc("more"); h != handle(0, 0) || e != api.ErrFull {
		t.Errorf("of a full pool: %v, %d", h, e)
	}
}

func TestALesserSlotIsTakenAheadOfOneNeverUsed(t *testing.T) { // P2.3
	p := newPool(t, 10)
	a := arena.New[int](p)
	put(t, a, 0)
	h := put(t, a, 1)
	a.Release(h)
	if got := put(t, a, 2); got != handle(1, 2) {
		t.Errorf("%v, want the slot that was released", got)
	}
	if got := put(t, a, 3); got != handle(2, 1) {
		t.Errorf("%v, want the next slot, of generation 1", got)
	}
}

func TestAFullPoolChangesNothing(t *testing.T) { // P2.3
	p := newPool(t, 2)
	a, b := arena.New[string](p), arena.New[int](p)
	x, y := put(t, a, "x"), put(t, b, 7)
	for range 5 {
		if h, e := a.Alloc("z"); h != handle(0, 0) || e != api.ErrFull {
			t.Errorf("%v, %d", h, e)
		}
		if h, e := b.Alloc(9); h != handle(0, 0) || e != api.ErrFull {
			t.Errorf("%v, %d", h, e)
		}
	}
	wantPool(t, p, 0, 2)
	wantHandles(t, a, x)
	wantHandles(t, b, y)
	wantThing(t, a, x, "x")
	wantThing(t, b, y, 7)
	a.Release(x)
	if h := put(t, b, 9); h != handle(0, 2) {
		t.Errorf("%v: the Allocs that found no slot count for nothing", h)
	}
}

func TestWhatIsWrittenThroughAPlaceStays(t *testing.T) { // P2.4
	type pair struct {
		name string
		n    [3]int
	}
	p := newPool(t, 100)
	a := arena.New[pair](p)
	h, other := put(t, a, pair{name: "x"}), put(t, a, pair{name: "y"})
	early, _ := a.Get(h)
	early.name, early.n[2] = "z", 5
	for i := range 90 {
		put(t, a, pair{n: [3]int{i, i, i}})
	}
	wantThing(t, a, h, pair{"z", [3]int{0, 0, 5}})
	late, _ := a.Get(h)
	if early != late {
		t.Error("the thing was moved while others came")
	}
	early.n[0] = 6
	wantThing(t, a, h, pair{"z", [3]int{6, 0, 5}})
	wantThing(t, a, other, pair{name: "y"})
}

func TestAPlaceIsNotTheArgument(t *testing.T) { // P2.4, R4
	a := arena.New[[2]int](newPool(t, 1))
	x := [2]int{1, 2}
	h := put(t, a, x)
	x[0] = 9
	wantThing(t, a, h, [2]int{1, 2})
	at, _ := a.Get(h)
	at[1] = 8
	if x != [2]int{9, 2} {
		t.Errorf("the argument is %v", x)
	}
}

func TestAnOldPlaceIsNotTheNewThings(t *testing.T) { // P2.4
	a := arena.New[int](newPool(t, 1))
	old := put(t, a, 1)
	at, _ := a.Get(old)
	a.Release(old)
	h := put(t, a, 2)
	*at = 3
	wantThing(t, a, h, 2)
	wantDead(t, a, old)
}

func TestZeroThingsAreThings(t *testing.T) { // P2.3, P2.4
	p := newPool(t, 4)
	a, b, c, d := arena.New[*int](p), arena.New[struct{}](p), arena.New[error](p), arena.New[map[string]int](p)
	x, y, z, m := put(t, a, nil), put(t, b, struct{}{}), put(t, c, nil), put(t, d, nil)
	wantThing(t, a, x, nil)
	wantThing(t, b, y, struct{}{})
	wantThing(t, c, z, nil)
	if at, ok := d.Get(m); !ok || at == nil || *at != nil {
		t.Errorf("Get(%v) = %v, %t", m, at, ok)
	}
	if !a.Release(x) || !b.Release(y) || !c.Release(z) || !d.Release(m) {
		t.Error("Release of a zero thing")
	}
	wantPool(t, p, 4, 0)
}

func TestASlotThatIsReleasedManyTimes(t *testing.T) { // P2.4, P2.6
	const times = 5000
	for _, size := range []int{1, 4096} {
		p := newPool(t, size)
		a, b := arena.New[int](p), arena.New[int](p)
		last := handle(0, 0)
		for i := range times {
			in, beside := a, b
			if i%3 == 1 {
				in, beside = b, a
			}
			h := put(t, in, i)
			if h != handle(0, uint64(i)+1) {
				t.Fatalf("put number %d: %v", i, h)
			}
			wantThing(t, in, h, i)
			wantDead(t, in, last)
			wantDead(t, beside, last)
			wantDead(t, beside, h)
			wantPool(t, p, size-1, 1)
			if !in.Release(h) || in.Release(h) {
				t.Fatalf("Release(%v) is not true just once", h)
			}
			wantPool(t, p, size, 0)
			last = h
		}
		for gen := range uint64(times + 2) {
			wantDead(t, a, handle(0, gen))
			wantDead(t, b, handle(0, gen))
		}
	}
}

func TestOnlyTheReleasedSlotGetsAnotherGeneration(t *testing.T) { // P2.4
	p := newPool(t, 70)
	a := arena.New[int](p)
	for i := range 70 {
		put(t, a, i)
	}
	for range 3 {
		a.Release(a.Handles()[66])
		put(t, a, 66)
	}
	for i := range 70 {
		gen := uint64(1)
		if i == 66 {
			gen = 4
		}
		wantThing(t, a, handle(i, gen), i)
	}
}

func TestWrongHandles(t *testing.T) { // P2.4, R1
	p := newPool(t, 3)
	a, b := arena.New[string](p), arena.New[string](p)
	old := put(t, a, "old")
	foreign := put(t, b, "foreign")
	a.Release(old)
	h := put(t, a, "new")
	if h != handle(0, 2) {
		t.Fatal(h)
	}
	for _, wrong := range []api.Handle{
		{}, old, foreign, handle(0, 3), handle(0, math.MaxUint64), handle(0, 1<<32+2), handle(1, 2),
		handle(2, 0), handle(2, 1), handle(3, 1), handle(3, 2), handle(4096, 1), handle(64, 2), handle(1<<32, 2),
		handle(-1, 1), handle(-1, 2), handle(-64, 2), handle(-4096, 2), handle(math.MinInt, 2), handle(math.MaxInt, 2),
	} {
		wantDead(t, a, wrong)
		wantPool(t, p, 1, 2)
		wantThing(t, a, h, "new")
		wantThing(t, b, foreign, "foreign")
	}
	if got := put(t, a, "last"); got != handle(2, 1) {
		t.Errorf("%v: the wrong handles touched a slot", got)
	}
}

func TestTheZeroHandleIsNeverAlive(t *testing.T) { // P2.6
	p := newPool(t, 2)
	a := arena.New[int](p)
	wantDead(t, a, api.Handle{})
	for range 3 {
		h := put(t, a, 1)
		wantDead(t, a, api.Handle{})
		a.Release(h)
		wantDead(t, a, api.Handle{})
	}
}

func TestHandlesRise(t *testing.T) { // P2.5
	p := newPool(t, 300)
	a, b := arena.New[int](p), arena.New[int](p)
	var first, second []api.Handle
	for i := range 300 {
		if i%3 == 0 {
			second = append(second, put(t, b, i))
		} else {
			first = append(first, put(t, a, i))
		}
		wantHandles(t, a, first...)
		wantHandles(t, b, second...)
	}
	for _, h := range slices.Backward(second) {
		b.Release(h)
	}
	wantHandles(t, a, first...)
	wantHandles(t, b)
	for i, h := range second {
		second[i] = handle(h.Slot, 2)
		first = append(first, put(t, a, i))
	}
	slices.SortFunc(first, func(x, y api.Handle) int { return x.Slot - y.Slot })
	wantHandles(t, a, first...)
	for _, h := range second {
		if !slices.Contains(first, h) {
			t.Errorf("%v was not told", h)
		}
	}
}

func TestHandlesAreNewMemory(t *testing.T) { // P2.5, R4
	a := arena.New[int](newPool(t, 3))
	x, y := put(t, a, 1), put(t, a, 2)
	one, two := a.Handles(), a.Handles()
	one[0], one[1] = handle(7, 7), handle(8, 8)
	_ = append(one[:0], handle(9, 9))
	if !slices.Equal(two, []api.Handle{x, y}) {
		t.Errorf("two answers share memory: %v", two)
	}
	wantHandles(t, a, x, y)
	wantThing(t, a, x, 1)
}

func TestPoolsKnowNothingOfOneAnother(t *testing.T) { // R3
	p, q := newPool(t, 1), newPool(t, 1)
	a, b := arena.New[int](p), arena.New[int](q)
	h := put(t, a, 1)
	wantPool(t, q, 1, 0)
	wantDead(t, b, h)
	put(t, b, 2)
	a.Release(h)
	wantPool(t, p, 1, 0)
	wantPool(t, q, 0, 1)
	wantThing(t, b, handle(0, 1), 2)
	if h := put(t, a, 3); h != handle(0, 2) {
		t.Error(h)
	}
	b.Release(handle(0, 1))
	if h := put(t, b, 4); h != handle(0, 2) {
		t.Errorf("%v: the other pool's generation counts here", h)
	}
}
