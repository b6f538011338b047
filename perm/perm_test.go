package perm_test

import (
	"math"
	"slices"
	"testing"

	"marshalling/perm"
	"marshalling/testrows"
)

// ranked is a rank with its slot.
type ranked struct{ rank, slot int }

func collect(p uint64) []ranked {
	var l []ranked
	for rank, slot := range perm.All(p) {
		l = append(l, ranked{rank, slot})
	}
	return l
}

func wantInsert(t *testing.T, p uint64, i int, to uint64, slot int, ok bool) {
	t.Helper()
	if gotTo, gotSlot, gotOk := perm.Insert(p, i); gotTo != to || gotSlot != slot || gotOk != ok {
		t.Errorf("Insert(%x, %d) = %x, %d, %t, want %x, %d, %t", p, i, gotTo, gotSlot, gotOk, to, slot, ok)
	}
}

func wantRemove(t *testing.T, p uint64, i int, to uint64, slot int, ok bool) {
	t.Helper()
	if gotTo, gotSlot, gotOk := perm.Remove(p, i); gotTo != to || gotSlot != slot || gotOk != ok {
		t.Errorf("Remove(%x, %d) = %x, %d, %t, want %x, %d, %t", p, i, gotTo, gotSlot, gotOk, to, slot, ok)
	}
}

func wantRight(t *testing.T, p uint64, want bool) {
	t.Helper()
	if perm.Right(p) != want {
		t.Errorf("Right(%x) = %t", p, !want)
	}
}

func wantAt(t *testing.T, p uint64, i, want int) {
	t.Helper()
	if got := perm.At(p, i); got != want {
		t.Errorf("At(%x, %d) = %d, want %d", p, i, got, want)
	}
}

// wantDigits holds what Len and At tell of p against its digits.
func wantDigits(t *testing.T, p uint64) {
	t.Helper()
	if got := perm.Len(p); got != digitAt(p, 0) {
		t.Errorf("Len(%x) = %d", p, got)
	}
	for i := range perm.Width {
		wantAt(t, p, i, digitAt(p, i+1))
	}
}

func TestTheDocumentsExamples(t *testing.T) { // P13.1, P13.2
	if perm.Width != 15 {
		t.Error("Width is not 15")
	}
	p := perm.Empty()
	if p != word(empty) {
		t.Errorf("Empty() = %x", p)
	}
	wantInsert(t, p, 0, word("edcba98765432101"), 0, true)
	wantInsert(t, word("edcba98765432101"), 0, word("edcba98765432012"), 1, true)
	wantInsert(t, word("edcba98765432012"), 1, word("edcba98765430213"), 2, true)
	last := word("edcba98765431022")
	wantRemove(t, word("edcba98765430213"), 0, last, 1, true)
	wantAt(t, last, 0, 2)
	wantAt(t, last, 2, 1)
	wantInsert(t, p, 1, p, -1, false)
	wantRemove(t, p, 0, p, -1, false)
	wantRight(t, 0, false)
}

func TestTheEmptyWord(t *testing.T) { // P13.1, P13.3
	p := perm.Empty()
	wantRight(t, p, true)
	if n := perm.Len(p); n != 0 {
		t.Errorf("Len of the empty word is %d", n)
	}
	for i := range perm.Width {
		wantAt(t, p, i, i)
	}
	if l := collect(p); len(l) != 0 {
		t.Errorf("All of the empty word tells %v", l)
	}
	if perm.Empty() != p {
		t.Error("Empty is not the same twice")
	}
}

func TestEachDigitIsToldOfAnyWord(t *testing.T) { // P13.1
	wantDigits(t, word(empty))
	for _, p := range rightWords() {
		wantDigits(t, p)
	}
	for _, p := range wrongWords() {
		wantDigits(t, p)
	}
	for i := range perm.Width + 1 {
		for n := range 16 { // one digit alone, and among others that are greatest
			wantDigits(t, withDigit(0, i, n))
			wantDigits(t, withDigit(math.MaxUint64, i, n))
		}
	}
}

func TestNoPlaceOutsideHasANumber(t *testing.T) { // P13.1
	for _, p := range slices.Concat(rightWords(), wrongWords()[:100]) {
		for _, i := range outside() {
			wantAt(t, p, i, -1)
		}
	}
}

func TestAWordIsRightIfEachSlotStandsOnce(t *testing.T) { // P13.1
	for _, p := range rightWords() {
		wantRight(t, p, true)
		for count := range 16 { // whatever the count is
			wantRight(t, withDigit(p, 0, count), true)
		}
		for i := range perm.Width {
			for j := range perm.Width { // two places change their slots
				wantRight(t, withDigit(withDigit(p, i+1, digitAt(p, j+1)), j+1, digitAt(p, i+1)), true)
			}
		}
	}
	for _, p := range wrongWords() {
		wantRight(t, p, false)
	}
	for n := range 16 {
		for count := range 16 { // one number in all places
			p := uint64(count)
			for i := range perm.Width {
				p = withDigit(p, i+1, n)
			}
			wantRight(t, p, false)
		}
	}
}

func TestInsertAtEachRank(t *testing.T) { // P13.2
	wantInsert(t, word("210edcba98765430"), 0, word("210edcba98765431"), 3, true)
	p := word("6e5d4c3b2a190875") // 7 8 0 9 1 in use, then 10 2 11 3 12 4 13 5 14 6
	for i, to := range []string{"6e5d4c3b219087a6", "6e5d4c3b21908a76", "6e5d4c3b2190a876", "6e5d4c3b219a0876", "6e5d4c3b21a90876", "6e5d4c3b2a190876"} {
		wantInsert(t, p, i, word(to), 10, true)
	}
	wantInsert(t, p, 6, p, -1, false)
	wantInsert(t, p, -1, p, -1, false)
	wantInsert(t, word("6e5d4c3b2a19087e"), 14, word("6e5d4c3b2a19087f"), 6, true)
	wantInsert(t, word("6e5d4c3b2a19087e"), 0, word("e5d4c3b2a190876f"), 6, true)
}

func TestRemoveAtEachRank(t *testing.T) { // P13.2
	p := word("6e5d4c3b2a190875") // 7 8 0 9 1 in use
	for i, row := range []struct {
		to   string
		slot int
	}{{"6e5d4c3b2a719084", 7}, {"6e5d4c3b2a819074", 8}, {"6e5d4c3b2a019874", 0}, {"6e5d4c3b2a910874", 9}, {"6e5d4c3b2a190874", 1}} {
		wantRemove(t, p, i, word(row.to), row.slot, true)
	}
	wantRemove(t, p, 5, p, -1, false)
	wantRemove(t, p, -1, p, -1, false)
	wantRemove(t, word("6e5d4c3b2a190871"), 0, word("6e5d4c3b2a190870"), 7, true)
	wantRemove(t, word("6e5d4c3b2a19087f"), 14, word("6e5d4c3b2a19087e"), 6, true)
	wantRemove(t, word("6e5d4c3b2a19087f"), 0, word("76e5d4c3b2a1908e"), 7, true)
}

func TestNothingIsInsertedIntoAFullWord(t *testing.T) { // P13.2
	for _, p := range rightWords() {
		full := withDigit(p, 0, perm.Width)
		for i := range perm.Width + 2 {
			wantInsert(t, full, i, full, -1, false)
		}
	}
}

func TestNothingIsRemovedFromAnEmptyWord(t *testing.T) { // P13.2
	for _, p := range rightWords() {
		none := withDigit(p, 0, 0)
		for i := range perm.Width + 2 {
			wantRemove(t, none, i, none, -1, false)
		}
	}
}

func TestRanksOutside(t *testing.T) { // P13.2
	for _, p := range rightWords() {
		n := digitAt(p, 0)
		for i := n + 1; i <= perm.Width+1; i++ {
			wantInsert(t, p, i, p, -1, false)
			wantRemove(t, p, i-1, p, -1, false)
		}
		for _, i := range outside() {
			wantInsert(t, p, i, p, -1, false)
			wantRemove(t, p, i, p, -1, false)
		}
	}
}

func TestWrongWordsBecomeNothingElse(t *testing.T) { // P13.2, P13.3
	for _, p := range wrongWords() {
		for i := -1; i <= perm.Width; i++ {
			wantInsert(t, p, i, p, -1, false)
			wantRemove(t, p, i, p, -1, false)
		}
		if l := collect(p); len(l) != 0 {
			t.Errorf("All(%x) tells %v", p, l)
		}
	}
	for _, p := range wrongWords()[:14] {
		for _, i := range outside() {
			wantInsert(t, p, i, p, -1, false)
			wantRemove(t, p, i, p, -1, false)
		}
	}
}

func TestNothingPanics(t *testing.T) { // R1
	draw := testrows.Draws(1)
	for range 20000 {
		p := uint64(draw(1<<16))<<48 | uint64(draw(1<<24))<<24 | uint64(draw(1<<24))
		wantDigits(t, p)
		i := draw(20) - 2
		perm.At(p, i)
		to, slot, ok := perm.Insert(p, i)
		if ok != (slot >= 0) || !ok && to != p {
			t.Fatalf("Insert(%x, %d) = %x, %d, %t", p, i, to, slot, ok)
		}
		if to, slot, ok = perm.Remove(p, i); ok != (slot >= 0) || !ok && to != p {
			t.Fatalf("Remove(%x, %d) = %x, %d, %t", p, i, to, slot, ok)
		}
		if l := collect(p); len(l) > 0 && !perm.Right(p) {
			t.Fatalf("All(%x) tells %v", p, l)
		}
	}
}

func TestAllTellsTheRanksInUse(t *testing.T) { // P13.3
	if got, want := collect(word("edcba98765430213")), []ranked{{0, 1}, {1, 2}, {2, 0}}; !slices.Equal(got, want) {
		t.Errorf("All tells %v, want %v", got, want)
	}
	for _, p := range rightWords() {
		var want []ranked
		for i := range digitAt(p, 0) {
			want = append(want, ranked{i, digitAt(p, i+1)})
		}
		all := perm.All(p)
		for range 2 {
			var got []ranked
			for rank, slot := range all {
				got = append(got, ranked{rank, slot})
			}
			if !slices.Equal(got, want) {
				t.Errorf("All(%x) tells %v, want %v", p, got, want)
			}
		}
	}
}

func TestAllIsLeftEarlyAndGoneOverAgain(t *testing.T) { // P13.3
	for _, p := range rightWords() {
		all, n := perm.All(p), digitAt(p, 0)
		for stop := range n {
			told := 0
			all(func(rank, slot int) bool {
				if rank != told || slot != digitAt(p, rank+1) {
					t.Errorf("All(%x), left at %d, tells %d, %d", p, stop, rank, slot)
				}
				told++
				return rank < stop
			})
			if told != stop+1 {
				t.Errorf("All(%x), left at %d, tells %d ranks", p, stop, told)
			}
		}
		pairs := 0
		for range all {
			for range all {
				pairs++
			}
		}
		if pairs != n*n {
			t.Errorf("All(%x) within itself tells %d pairs", p, pairs)
		}
	}
}

func TestAllTellsOfTheWordThatItWasAskedOf(t *testing.T) { // P13.3
	p := word("edcba98765430213")
	all := perm.All(p)
	p, _, _ = perm.Remove(p, 0)
	var slots []int
	for _, slot := range all {
		p, _, _ = perm.Remove(p, 0)
		slots = append(slots, slot)
	}
	if !slices.Equal(slots, []int{1, 2, 0}) {
		t.Errorf("All tells the slots %v", slots)
	}
}
