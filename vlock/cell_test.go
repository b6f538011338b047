package vlock_test

import (
	"testing"

	"marshalling/vlock"
)

func cellWith(w uint64) *vlock.Cell {
	c := &vlock.Cell{}
	c.Store(w)
	return c
}

func wantLoad(t *testing.T, c *vlock.Cell, want uint64) {
	t.Helper()
	if got := c.Load(); got != want {
		t.Errorf("Load = %d, want %d", got, want)
	}
}

func wantTake(t *testing.T, c *vlock.Cell, w uint64, ok bool) {
	t.Helper()
	if gotW, gotOk := c.Take(); gotW != w || gotOk != ok {
		t.Errorf("Take = %d, %t, want %d, %t", gotW, gotOk, w, ok)
	}
}

func wantGive(t *testing.T, c *vlock.Cell, want bool) {
	t.Helper()
	if got := c.Give(); got != want {
		t.Errorf("Give = %t, want %t", got, want)
	}
}

func wantEnd(t *testing.T, c *vlock.Cell, want bool) {
	t.Helper()
	if got := c.End(); got != want {
		t.Errorf("End = %t, want %t", got, want)
	}
}

func wantCas(t *testing.T, c *vlock.Cell, old, to uint64, want bool) {
	t.Helper()
	if got := c.Cas(old, to); got != want {
		t.Errorf("Cas(%d, %d) = %t, want %t", old, to, got, want)
	}
}

func TestTheDocumentsExampleOfACell(t *testing.T) { // P3.3
	c := &vlock.Cell{}
	wantTake(t, c, 0, true)
	wantTake(t, c, 1, false)
	wantLoad(t, c, 1)
	wantGive(t, c, true)
	wantLoad(t, c, 4)
	wantTake(t, c, 4, true)
	wantEnd(t, c, true)
	wantLoad(t, c, 10)
	wantGive(t, c, false)
}

func TestACellHolds0AtFirst(t *testing.T) { // P3.3
	var c vlock.Cell
	wantLoad(t, &c, 0)
	wantLoad(t, new(vlock.Cell), 0)
}

func TestWhatIsStoredStandsThere(t *testing.T) { // P3.3
	c := &vlock.Cell{}
	for _, p := range allParts() {
		c.Store(p.word())
		wantLoad(t, c, p.word())
		wantLoad(t, c, p.word())
	}
	c.Store(0) // whatever stood there, even what was dead
	wantLoad(t, c, 0)
}

func TestCasOfTheWordThatStandsThereAlone(t *testing.T) { // P3.3
	for _, p := range allParts() {
		for _, q := range allParts() {
			c := cellWith(p.word())
			wantCas(t, c, q.word(), 20, p == q)
			if p == q {
				wantLoad(t, c, 20)
			} else {
				wantLoad(t, c, p.word())
			}
		}
		c := cellWith(p.word())
		wantCas(t, c, p.word(), p.word(), true)
		wantLoad(t, c, p.word())
	}
}

func TestTakeOfAnOpenCellAlone(t *testing.T) { // P3.3
	for _, p := range allParts() {
		c := cellWith(p.word())
		wantTake(t, c, p.word(), p.open())
		wantLoad(t, c, p.lock().word())
		wantTake(t, c, p.lock().word(), false)
		wantLoad(t, c, p.lock().word())
	}
}

func TestGiveAndEndOfATakenCellAlone(t *testing.T) { // P3.3
	for _, p := range allParts() {
		held := p.locked && !p.dead
		given, ended := p, p
		if held {
			given, ended = p.unlock(), p.kill()
		}
		c := cellWith(p.word())
		wantGive(t, c, held)
		wantLoad(t, c, given.word())
		wantGive(t, c, false) // what was given is not taken any more
		wantEnd(t, c, false)
		wantLoad(t, c, given.word())

		c = cellWith(p.word())
		wantEnd(t, c, held)
		wantLoad(t, c, ended.word())
		wantEnd(t, c, false)
		wantGive(t, c, false)
		wantTake(t, c, ended.word(), p.open()) // what was ended is never open again
	}
}

func TestACellGoesOnFromTheLastVersionTo0(t *testing.T) { // P3.3, P3.5
	c := cellWith(greatest - 3)
	wantTake(t, c, greatest-3, true)
	wantLoad(t, c, greatest-2)
	wantGive(t, c, true)
	wantLoad(t, c, 0)
	wantTake(t, c, 0, true)

	c = cellWith(greatest - 3)
	wantTake(t, c, greatest-3, true)
	wantEnd(t, c, true)
	wantLoad(t, c, 2)
	wantTake(t, c, 2, false)
}

func TestACellThatIsChangedWhileItIsTaken(t *testing.T) { // P3.3
	c := &vlock.Cell{}
	wantTake(t, c, 0, true)
	c.Store(40)
	wantGive(t, c, false)
	wantEnd(t, c, false)
	wantTake(t, c, 40, true)
	wantCas(t, c, 40, 80, false)
	wantCas(t, c, 41, 81, true)
	wantGive(t, c, true)
	wantLoad(t, c, 84)
	wantCas(t, c, 84, 86, true)
	wantTake(t, c, 86, false)
	wantCas(t, c, 86, 88, true)
	wantTake(t, c, 88, true)
	wantEnd(t, c, true)
	wantLoad(t, c, 94)
}

func TestANilCell(t *testing.T) { // P3.4
	var c *vlock.Cell
	for range 2 {
		wantLoad(t, c, 0)
		wantTake(t, c, 0, false)
		wantGive(t, c, false)
		wantEnd(t, c, false)
		wantCas(t, c, 0, 0, false)
		wantCas(t, c, 0, 8, false)
		wantCas(t, c, 5, 8, false)
		c.Store(5)
	}
}

func TestCellsKnowNothingOfOneAnother(t *testing.T) { // R3
	a, b := &vlock.Cell{}, &vlock.Cell{}
	wantTake(t, a, 0, true)
	wantLoad(t, b, 0)
	wantTake(t, b, 0, true)
	wantEnd(t, b, true)
	wantGive(t, a, true)
	wantLoad(t, a, 4)
	wantLoad(t, b, 6)
}
