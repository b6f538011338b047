package art_test

import (
	"testing"

	"marshalling/api"
	"marshalling/arena"
	"marshalling/testtrees"
)

func TestAPutHasJustTheSlotsItNeeds(t *testing.T) { // P12.3
	rows := testtrees.Orders(60)
	rows["parting"] = []string{"abcx", "abcy", "abx", "ax", "abc", "b", "bc", "", "abcz", "ab"}
	for name, l := range rows {
		if most := kind().Needs(t, l); most != 2 {
			t.Errorf("%s: the most that a Put needed were %d slots, want 2", name, most)
		}
	}
	kind().Needs(t, testtrees.Odd())
}

func TestWhatAPutNeeds(t *testing.T) { // P12.3
	for _, tell := range []struct {
		key   string
		needs int
	}{
		{"", 0}, {"ab", 0}, // they are nodes already
		{"abc", 0}, // a key
		{"b", 1}, {"abe", 1}, {"abcd", 1}, {"\x00", 1},
		{"a", 1}, {"x", 1}, {"xy", 1}, // above keys, where no other key parts
		{"ac", 2}, {"xyw", 2}, {"xz", 2}, {"abc\xff", 1},
	} {
		h := kind().Hold(t, 20, "abc", "abd", "xyz")
		f := testtrees.NewFiller(h.Pool)
		if tell.needs > 0 {
			f.Leave(t, tell.needs-1)
			testtrees.WantFull(t, h.X, h.Pool, tell.key, []string{tell.key, "abc", "abd", "xyz", "", "ab"})
			h.WantShared()
		}
		f.Leave(t, tell.needs)
		h.Put(tell.key, "new")
		if h.Pool.Free() != 0 {
			t.Errorf("Put(%q) leaves %d slots of %d", tell.key, h.Pool.Free(), tell.needs)
		}
		h.WantShared()
		h.WantKeys(tell.key, "abc", "abd", "xyz", "", "ab")
		h.Put(tell.key, "newer") // it is there now: that needs none
		h.WantKeys(tell.key)
	}
}

func TestWhatNeedsNoSlot(t *testing.T) { // P12.3: in a pool without a free slot
	kind().NeedsNone(t, append(testtrees.Orders(60)["in strides"], testtrees.Odd()...))
}

func TestWhatIsGivenBackIsTakenAgain(t *testing.T) { // P12.3, P12.6: by others, and by the tree itself
	h := kind().Hold(t, 7, "abc", "abd", "b", "bc")
	numbers := arena.New[int](h.Pool)
	take := func(want int) {
		t.Helper()
		numbers.Alloc(7)
		if n := numbers.Live(); n != want || h.Pool.Free() != 0 {
			t.Errorf("%d slots are taken by others, %d are free, want %d, 0", n, h.Pool.Free(), want)
		}
	}
	take(1)
	h.Delete("b") // one alone goes on behind it
	take(2)
	h.Delete("abd") // and where it parted from the other one
	numbers.Alloc(7)
	take(4)
	testtrees.WantFull(t, h.X, h.Pool, "abe", []string{"abc", "bc"})
	h.Delete("bc")
	h.WantShared()
	h.Put("ab", "1")
	take(4)
	h.Delete("abc")
	h.Delete("ab")
	numbers.Alloc(7)
	take(6)
	h.Put("", "1")
	testtrees.WantFull(t, h.X, h.Pool, "x", []string{""})
	for _, n := range numbers.Handles() {
		numbers.Release(n)
	}
	for _, key := range []string{"abc", "abd", "b", "bc"} {
		h.Put(key, "again")
	}
	h.Want()
	h.WantKeys("", "abc", "abd", "b", "bc")
}

func TestSmallPools(t *testing.T) { // P12.3, P12.6
	for slots := 1; slots <= 20; slots++ {
		for name, l := range testtrees.Orders(60) {
			h := kind().Hold(t, slots)
			for _, key := range l {
				h.TryPut(key, "v"+key)
			}
			h.Want()
			if len(h.M) < slots/2 || len(h.M) > slots-1 {
				t.Errorf("%s: %d slots for %d keys", name, slots, len(h.M))
			}
			for _, key := range l {
				h.Delete(key)
			}
			h.Want()
			if h.X.Slots() != 1 {
				t.Errorf("%s: without keys it takes %d slots", name, h.X.Slots())
			}
		}
	}
}

func TestOfBothErrorsErrGone(t *testing.T) { // P12.3, R2
	h := kind().Hold(t, 2)
	h.X.Drop()
	testtrees.NewFiller(h.Pool).Leave(t, 0)
	testtrees.WantPut(t, h.X, "a", "1", "", false, api.ErrGone)
	testtrees.WantPut(t, h.X, "", "1", "", false, api.ErrGone)
}
