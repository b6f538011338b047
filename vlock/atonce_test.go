package vlock_test

import (
	"runtime"
	"sync"
	"sync/atomic"
	"testing"
	"time"

	"marshalling/vlock"
)

const (
	workers = 8
	each    = 20000 // rounds of each worker: few of them meet others in the midst of a call
)

// atOnce lets all workers go at once, and waits for them.
func atOnce(do func(i int)) {
	var all sync.WaitGroup
	start := make(chan bool)
	for i := range workers {
		all.Go(func() {
			<-start
			do(i)
		})
	}
	close(start)
	all.Wait()
}

// takeAtLast takes a cell that others take and give, too; it gives up, and fails, where a cell is never open again.
func takeAtLast(t *testing.T, c *vlock.Cell) uint64 {
	var until time.Time
	for try := 1; ; try++ {
		if w, ok := c.Take(); ok {
			return w
		}
		runtime.Gosched()
		if try == 1000 {
			until = time.Now().Add(20 * time.Second)
		}
		if try%1000 == 0 && (t.Failed() || time.Now().After(until)) {
			t.Error("nobody gives the cell")
			return 0
		}
	}
}

func mustGive(t *testing.T, c *vlock.Cell) {
	if !c.Give() {
		t.Error("who took it can't give it")
	}
}

func TestWhoTookACellHasItAlone(t *testing.T) { // P3.3, P3.5
	c := &vlock.Cell{}
	n, inside := 0, atomic.Int64{}
	seen := make([]int, workers*each) // how often each version was taken
	atOnce(func(int) {
		for range each {
			v := vlock.Version(takeAtLast(t, c))
			if inside.Add(1) != 1 {
				t.Error("two have the cell")
			}
			n++
			if v < uint64(len(seen)) {
				seen[v]++
			}
			inside.Add(-1)
			mustGive(t, c)
		}
	})
	if n != workers*each {
		t.Errorf("%d writes, want %d", n, workers*each)
	}
	wantLoad(t, c, 4*workers*each)
	for v, times := range seen {
		if times != 1 {
			t.Fatalf("version %d was taken %d times", v, times)
		}
	}
}

func TestWhoIsValidSawNoHalfOfAWrite(t *testing.T) { // P3.5
	c := &vlock.Cell{}
	var left, right atomic.Int64 // the same, but while somebody writes
	atOnce(func(i int) {
		for range each {
			if i%2 == 0 {
				takeAtLast(t, c)
				n := left.Add(1)
				runtime.Gosched()
				right.Store(n)
				mustGive(t, c)
				continue
			}
			v, ok := vlock.Begin(c.Load())
			l := left.Load()
			runtime.Gosched()
			r := right.Load()
			if ok && vlock.Valid(c.Load(), v) && (l != r || uint64(l) != vlock.Version(v)) {
				t.Errorf("at version %d: %d, %d", vlock.Version(v), l, r)
			}
		}
	})
	wantLoad(t, c, 4*each*workers/2)
}

// onlyOne asks the same of many cells, of each by all workers at once, and wants just one true a cell.
func onlyOne(t *testing.T, from uint64, to func(i int) uint64, ask func(c *vlock.Cell, i int) bool) {
	t.Helper()
	cells := make([]vlock.Cell, each)
	for i := range cells {
		cells[i].Store(from)
	}
	won := make([][workers]bool, each)
	atOnce(func(i int) {
		for k := range cells {
			won[k][i] = ask(&cells[k], i)
		}
	})
	for k := range cells {
		winners, who := 0, -1
		for i, ok := range won[k] {
			if ok {
				winners, who = winners+1, i
			}
		}
		if winners != 1 {
			t.Fatalf("%d of %d were answered true", winners, workers)
		}
		wantLoad(t, &cells[k], to(who))
	}
}

func TestOneOfManyTakes(t *testing.T) { // P3.3
	onlyOne(t, 8, func(int) uint64 { return 9 }, func(c *vlock.Cell, _ int) bool {
		_, ok := c.Take()
		return ok
	})
}

func TestOneOfManyGivesOrEnds(t *testing.T) { // P3.3
	onlyOne(t, 9, func(i int) uint64 { return []uint64{12, 14}[i%2] }, func(c *vlock.Cell, i int) bool {
		if i%2 == 0 {
			return c.Give()
		}
		return c.End()
	})
}

func TestOneOfManySwaps(t *testing.T) { // P3.3
	onlyOne(t, 8, func(i int) uint64 { return uint64(100 + 4*i) }, func(c *vlock.Cell, i int) bool {
		return c.Cas(8, uint64(100+4*i))
	})
}

// oneOnAtLast makes a cell's word one version on, even of a cell that another one has; false, if Cas never does it.
func oneOnAtLast(c *vlock.Cell) bool {
	for range 1 << 24 {
		if w := c.Load(); c.Cas(w, w+4) {
			return true
		}
	}
	return false
}

func TestNothingIsLostBetweenSwapsAndWriters(t *testing.T) { // P3.3
	c := &vlock.Cell{}
	atOnce(func(i int) {
		for range each {
			if i%2 == 0 {
				takeAtLast(t, c)
				mustGive(t, c)
			} else if !oneOnAtLast(c) {
				t.Error("Cas is never true")
				return
			}
		}
	})
	wantLoad(t, c, 4*workers*each)
}
