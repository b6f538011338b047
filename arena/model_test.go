package arena_test

import (
	"slices"
	"strconv"
	"testing"

	"marshalling/api"
	"marshalling/arena"
	"marshalling/testrows"
)

// face is an arena of whatever type, into which numbers are put.
type face struct {
	alloc   func(n int) (api.Handle, api.Errno)
	get     func(h api.Handle) (int, bool)
	set     func(h api.Handle, n int)
	release func(h api.Handle) bool
	live    func() int
	handles func() []api.Handle
}

func faceOf[T any](p *arena.Pool, to func(int) T, from func(T) int) face {
	a := arena.New[T](p)
	return face{
		alloc: func(n int) (api.Handle, api.Errno) { return a.Alloc(to(n)) },
		get: func(h api.Handle) (int, bool) {
			x, ok := a.Get(h)
			if !ok {
				return 0, false
			}
			return from(*x), true
		},
		set: func(h api.Handle, n int) {
			x, _ := a.Get(h)
			*x = to(n)
		},
		release: a.Release,
		live:    a.Live,
		handles: a.Handles,
	}
}

// facesOf are four arenas of one pool, two of them of the same type.
func facesOf(p *arena.Pool) []face {
	same := func(n int) int { return n }
	toText := func(s string) int { n, _ := strconv.Atoi(s); return n }
	return []face{
		faceOf(p, same, same),
		faceOf(p, same, same),
		faceOf(p, strconv.Itoa, toText),
		faceOf(p, func(n int) [2]*int { return [2]*int{1: &n} }, func(x [2]*int) int { return *x[1] }),
	}
}

// model is the document's words, said once more without maps or bits.
type model struct {
	gens   []uint64
	owners []int // -1: free
	things []int
	told   map[api.Handle]int // how often
}

func newModel(n int) *model {
	return &model{slices.Repeat([]uint64{1}, n), slices.Repeat([]int{-1}, n), make([]int, n), map[api.Handle]int{}}
}

func (m *model) alloc(owner, n int) (api.Handle, api.Errno) {
	for slot, other := range m.owners {
		if other < 0 {
			m.owners[slot], m.things[slot] = owner, n
			return handle(slot, m.gens[slot]), api.OK
		}
	}
	return api.Handle{}, api.ErrFull
}

func (m *model) alive(owner int, h api.Handle) bool {
	return h.Slot >= 0 && h.Slot < len(m.gens) && m.owners[h.Slot] == owner && m.gens[h.Slot] == h.Gen
}

func (m *model) release(owner int, h api.Handle) bool {
	if !m.alive(owner, h) {
		return false
	}
	m.owners[h.Slot] = -1
	m.gens[h.Slot]++
	return true
}

func (m *model) handles(owner int) []api.Handle {
	var all []api.Handle
	for slot, other := range m.owners {
		if other == owner {
			all = append(all, handle(slot, m.gens[slot]))
		}
	}
	return all
}

// someHandle is one of those that were told, at times with another slot or generation.
func someHandle(draw func(int) int, told []api.Handle, size int) api.Handle {
	if len(told) == 0 || draw(8) == 0 {
		return handle(draw(size+4)-2, uint64(draw(6)))
	}
	h := told[len(told)-1-draw(min(len(told), 3*size))]
	switch draw(8) {
	case 0:
		h.Gen++
	case 1:
		h.Gen--
	case 2:
		h.Slot += draw(5) - 2
	}
	return h
}

func TestArenasAreAsTheModel(t *testing.T) { // P2.1 to P2.6
	for _, size := range []int{1, 2, 7, 64, 65, 150} {
		draw := testrows.Draws(uint64(size))
		p := newPool(t, size)
		faces, m := facesOf(p), newModel(size)
		var told []api.Handle
		for i := range 4000 {
			owner := draw(len(faces))
			// For a while more is put than released, then the other way round, so that the pool is often full, and often empty.
			if draw(4) < 1+2*(i/(4*size)%2) {
				h, e := faces[owner].alloc(i)
				want, code := m.alloc(owner, i)
				if h != want || e != code {
					t.Fatalf("size %d, step %d: Alloc = %v, %d, want %v, %d", size, i, h, e, want, code)
				}
				if e == api.OK {
					told = append(told, h)
					m.told[h]++
				}
			} else {
				h := someHandle(draw, told, size)
				if all := m.handles(owner); len(all) > 0 && draw(8) > 0 {
					h = all[draw(len(all))]
				}
				if got, want := faces[owner].release(h), m.release(owner, h); got != want {
					t.Fatalf("size %d, step %d: Release(%v) = %t, want %t", size, i, h, got, want)
				}
			}
			holdAgainst(t, p, faces, m, someHandle(draw, told, size))
			if t.Failed() {
				t.Fatalf("size %d, step %d", size, i)
			}
		}
		for h, times := range m.told {
			if times != 1 {
				t.Errorf("%v was told %d times", h, times)
			}
		}
	}
}

// holdAgainst looks at all that can be seen, of one handle in particular, and writes through its place where it is alive.
func holdAgainst(t *testing.T, p *arena.Pool, faces []face, m *model, h api.Handle) {
	t.Helper()
	lives, homes := 0, 0
	for owner, f := range faces {
		want := m.handles(owner)
		if got := f.handles(); !slices.Equal(got, want) || f.live() != len(want) {
			t.Errorf("arena %d: Handles, Live = %v, %d, want %v", owner, got, f.live(), want)
		}
		lives += f.live()
		for _, x := range want {
			if n, ok := f.get(x); !ok || n != m.things[x.Slot] {
				t.Errorf("arena %d: Get(%v) = %d, %t, want %d", owner, x, n, ok, m.things[x.Slot])
			}
		}
		_, ok := f.get(h)
		if ok != m.alive(owner, h) {
			t.Errorf("arena %d: Get(%v): %t", owner, h, ok)
		}
		if ok {
			homes++
			m.things[h.Slot] += 1000
			f.set(h, m.things[h.Slot])
		}
	}
	if homes > 1 {
		t.Errorf("%v is alive in %d arenas", h, homes)
	}
	if p.Live() != lives || p.Free()+lives != len(m.gens) {
		t.Errorf("Live, Free = %d, %d, but the arenas have %d of %d", p.Live(), p.Free(), lives, len(m.gens))
	}
}
