package vlock_test

import (
	"testing"

	"marshalling/testrows"
	"marshalling/vlock"
)

// call is one call of a cell, with what the document makes of the word, and whether it answers true.
type call struct {
	name string
	ask  func(c *vlock.Cell) (w uint64, ok bool)
	want func(p parts) (to parts, w uint64, ok bool)
}

func take() call {
	return call{"Take", (*vlock.Cell).Take, func(p parts) (parts, uint64, bool) {
		return p.lock(), p.word(), p.open()
	}}
}

func give() call {
	return call{"Give", func(c *vlock.Cell) (uint64, bool) { return 0, c.Give() }, func(p parts) (parts, uint64, bool) {
		if !p.locked || p.dead {
			return p, 0, false
		}
		return p.unlock(), 0, true
	}}
}

func end() call {
	return call{"End", func(c *vlock.Cell) (uint64, bool) { return 0, c.End() }, func(p parts) (parts, uint64, bool) {
		if !p.locked || p.dead {
			return p, 0, false
		}
		return p.kill(), 0, true
	}}
}

func store(to parts) call {
	return call{"Store", func(c *vlock.Cell) (uint64, bool) { c.Store(to.word()); return 0, false }, func(parts) (parts, uint64, bool) {
		return to, 0, false
	}}
}

func cas(old, to parts) call {
	return call{"Cas", func(c *vlock.Cell) (uint64, bool) { return 0, c.Cas(old.word(), to.word()) }, func(p parts) (parts, uint64, bool) {
		if p != old {
			return p, 0, false
		}
		return to, 0, true
	}}
}

func names(row []call) []string {
	var all []string
	for _, x := range row {
		all = append(all, x.name)
	}
	return all
}

func TestEveryRowOfCallsIsAsTheModel(t *testing.T) { // P3.1 to P3.3
	open, locked, dead, both := parts{version: 1}, parts{version: last, locked: true}, parts{version: 3, dead: true}, parts{version: last, dead: true, locked: true}
	calls := []call{take(), give(), end(), store(open), store(locked), store(both), cas(parts{}, open), cas(open, locked), cas(dead, open)}
	testrows.Each(5, calls, func(row []call) {
		c, p := &vlock.Cell{}, parts{}
		for i, x := range row {
			w, ok := x.ask(c)
			to, wantW, wantOk := x.want(p)
			if w != wantW || ok != wantOk || c.Load() != to.word() {
				t.Fatalf("%v, call %d of %v: %d, %t, then %d, want %d, %t, then %d", names(row), i, p, w, ok, c.Load(), wantW, wantOk, to.word())
			}
			p = to
			wantParts(t, c.Load(), p)
		}
	})
}

// begun is what a reader began with, and how many had written to the end by then.
type begun struct {
	v     uint64
	wrote int
}

func TestOptimism(t *testing.T) { // P3.5
	testrows.Each(8, []call{take(), give(), end()}, func(row []call) {
		c := &vlock.Cell{}
		var readers []begun
		wrote, taken, ended := 0, false, false
		for _, x := range row {
			before := c.Load()
			if v, ok := vlock.Begin(before); ok {
				readers = append(readers, begun{v, wrote})
			}
			_, ok := x.ask(c)
			switch {
			case x.name == "Take" && ok:
				if taken || ended {
					t.Fatalf("%v: taken, and not alone", names(row))
				}
				taken = true
			case ok:
				if !taken || ended {
					t.Fatalf("%v: %s of what nobody took", names(row), x.name)
				}
				taken, ended = false, x.name == "End"
				wrote++
			}
			now := c.Load()
			if vlock.Version(now) < vlock.Version(before) || vlock.Dead(now) != ended || vlock.Locked(now) != taken {
				t.Fatalf("%v: %d behind %d", names(row), now, before)
			}
			for _, r := range readers {
				if vlock.Valid(now, r.v) != (r.wrote == wrote && !taken && !ended) {
					t.Fatalf("%v: Valid(%d, %d), but %d wrote since, taken %t, ended %t", names(row), now, r.v, wrote-r.wrote, taken, ended)
				}
			}
		}
	})
}
