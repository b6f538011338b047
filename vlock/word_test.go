package vlock_test

import (
	"testing"

	"marshalling/vlock"
)

const (
	versions = 1 << 62
	last     = versions - 1
	greatest = 1<<64 - 1
)

// parts is a word, its bits told one by one.
type parts struct {
	version      uint64
	dead, locked bool
}

// word is the number that the document gives to such parts.
func (p parts) word() uint64 {
	w := p.version * 4
	if p.dead {
		w += 2
	}
	if p.locked {
		w++
	}
	return w
}

func (p parts) open() bool { return !p.dead && !p.locked }

func (p parts) oneOn() parts {
	p.version = (p.version + 1) % versions
	return p
}

func (p parts) lock() parts {
	if p.open() {
		p.locked = true
	}
	return p
}

func (p parts) unlock() parts {
	if !p.locked {
		return p
	}
	p.locked = false
	return p.oneOn()
}

func (p parts) kill() parts {
	p.locked = false
	if p.dead {
		return p
	}
	p.dead = true
	return p.oneOn()
}

// allParts are words of several versions, each open, locked, dead, and both.
func allParts() []parts {
	var all []parts
	for _, v := range []uint64{0, 1, 2, 3, 4, 7, 8, 255, 256, 1<<30 - 1, 1 << 30, 1<<31 - 1, 1 << 32, 1 << 60, 1<<61 - 1, 1 << 61, last - 1, last} {
		for _, dead := range []bool{false, true} {
			for _, locked := range []bool{false, true} {
				all = append(all, parts{v, dead, locked})
			}
		}
	}
	return all
}

func wantBegin(t *testing.T, w, v uint64, ok bool) {
	t.Helper()
	if gotV, gotOk := vlock.Begin(w); gotV != v || gotOk != ok {
		t.Errorf("Begin(%d) = %d, %t, want %d, %t", w, gotV, gotOk, v, ok)
	}
}

func wantLock(t *testing.T, w, to uint64, ok bool) {
	t.Helper()
	if gotTo, gotOk := vlock.Lock(w); gotTo != to || gotOk != ok {
		t.Errorf("Lock(%d) = %d, %t, want %d, %t", w, gotTo, gotOk, to, ok)
	}
}

func wantUnlock(t *testing.T, w, to uint64) {
	t.Helper()
	if got := vlock.Unlock(w); got != to {
		t.Errorf("Unlock(%d) = %d, want %d", w, got, to)
	}
}

func wantKill(t *testing.T, w, to uint64) {
	t.Helper()
	if got := vlock.Kill(w); got != to {
		t.Errorf("Kill(%d) = %d, want %d", w, got, to)
	}
}

func wantValid(t *testing.T, w, v uint64, want bool) {
	t.Helper()
	if got := vlock.Valid(w, v); got != want {
		t.Errorf("Valid(%d, %d) = %t, want %t", w, v, got, want)
	}
}

func wantParts(t *testing.T, w uint64, want parts) {
	t.Helper()
	if got := (parts{vlock.Version(w), vlock.Dead(w), vlock.Locked(w)}); got != want {
		t.Errorf("of %d: Version, Dead, Locked = %v, want %v", w, got, want)
	}
}

func TestTheDocumentsExamplesOfWords(t *testing.T) { // P3.2
	wantBegin(t, 8, 8, true)
	wantBegin(t, 9, 0, false)
	wantBegin(t, 10, 0, false)
	wantValid(t, 8, 8, true)
	wantValid(t, 12, 8, false)
	wantLock(t, 8, 9, true)
	wantLock(t, 9, 9, false)
	wantUnlock(t, 9, 12)
	wantUnlock(t, 8, 8)
	wantKill(t, 9, 14)
	wantKill(t, 8, 14)
}

func TestAWordsParts(t *testing.T) { // P3.1
	wantParts(t, 0, parts{0, false, false})
	wantParts(t, 1, parts{0, false, true})
	wantParts(t, 2, parts{0, true, false})
	wantParts(t, 3, parts{0, true, true})
	wantParts(t, 4, parts{1, false, false})
	wantParts(t, 22, parts{5, true, false})
	wantParts(t, greatest, parts{last, true, true})
	for _, p := range allParts() {
		wantParts(t, p.word(), p)
	}
	for bit := range 62 {
		wantParts(t, 4<<bit, parts{version: 1 << bit})
		wantParts(t, greatest-4<<bit, parts{last - 1<<bit, true, true})
	}
}

func TestBeginOfOpenWordsAlone(t *testing.T) { // P3.2
	for _, p := range allParts() {
		if p.open() {
			wantBegin(t, p.word(), p.word(), true)
		} else {
			wantBegin(t, p.word(), 0, false)
		}
	}
}

func TestValidOfTheSameOpenWordAlone(t *testing.T) { // P3.2
	for _, p := range allParts() {
		for _, q := range allParts() {
			wantValid(t, p.word(), q.word(), p == q && p.open())
		}
		for bit := range 64 { // words that differ in one bit
			wantValid(t, p.word(), p.word()^1<<bit, false)
		}
	}
}

func TestLockOfOpenWordsAlone(t *testing.T) { // P3.2
	for _, p := range allParts() {
		wantLock(t, p.word(), p.lock().word(), p.open())
	}
}

func TestUnlockOfLockedWordsAlone(t *testing.T) { // P3.2
	for _, p := range allParts() {
		wantUnlock(t, p.word(), p.unlock().word())
		wantUnlock(t, p.unlock().word(), p.unlock().word()) // asked twice
	}
}

func TestKillIsForGood(t *testing.T) { // P3.2, P3.5
	for _, p := range allParts() {
		wantKill(t, p.word(), p.kill().word())
		wantKill(t, p.kill().word(), p.kill().word()) // asked twice
		dead := p.kill().word()
		wantLock(t, dead, dead, false)
		wantUnlock(t, dead, dead)
		wantBegin(t, dead, 0, false)
	}
}

func TestTheLeastWord(t *testing.T) { // P3.1, P3.2
	wantBegin(t, 0, 0, true)
	wantValid(t, 0, 0, true)
	wantLock(t, 0, 1, true)
	wantUnlock(t, 0, 0)
	wantUnlock(t, 1, 4)
	wantKill(t, 0, 6)
	wantKill(t, 1, 6)
	wantKill(t, 2, 2)
	wantKill(t, 3, 2)
}

func TestTheLastVersionGoesOnTo0(t *testing.T) { // P3.2, P3.5
	open := uint64(greatest - 3)
	wantBegin(t, open, open, true)
	wantLock(t, open, open+1, true)
	wantUnlock(t, open, open)
	wantUnlock(t, open+1, 0)
	wantKill(t, open, 2)
	wantKill(t, open+1, 2)
	wantKill(t, open+2, open+2)
	wantUnlock(t, greatest, 2)
	wantKill(t, greatest, greatest-1)
	wantLock(t, greatest, greatest, false)
	wantBegin(t, greatest, 0, false)
	wantValid(t, greatest, greatest, false)
}

func TestVersionsGoOnOneByOne(t *testing.T) { // P3.5
	for _, p := range allParts() {
		w := p.word()
		next := (p.version + 1) % versions
		for name, to := range map[string]uint64{"Unlock": vlock.Unlock(w), "Kill": vlock.Kill(w)} {
			if v := vlock.Version(to); v != p.version && v != next {
				t.Errorf("%s(%d): version %d behind %d", name, w, v, p.version)
			}
			if vlock.Dead(w) && !vlock.Dead(to) {
				t.Errorf("%s(%d) = %d: what was dead is not", name, w, to)
			}
		}
	}
}
