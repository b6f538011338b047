package art_test

import (
	"maps"
	"slices"
	"testing"

	"marshalling/testrows"
	"marshalling/testtrees"
)

func TestEveryOrderOfSevenKeys(t *testing.T) { // P12.2 to P12.4, P12.6
	kind().Orders(t, []string{"", "a", "ab", "abcd", "abce", "b\x00", "b\xff"})
}

func TestEveryShortRowOfWrites(t *testing.T) { // P12.2 to P12.4, P12.6
	kind().ShortRows(t, 4, []string{"ab", "acd", "ace", "a", "ac", "b", ""}, 3)
}

func TestLongRowsOfWrites(t *testing.T) { // P12.2 to P12.6
	for seed := range 40 {
		kind().LongRow(t, seed)
	}
}

// TestSameKeysByOtherRows comes to the same keys by puts alone, and by what is drawn.
func TestSameKeysByOtherRows(t *testing.T) { // P12.6
	for seed := range 40 {
		draw := testrows.Draws(uint64(seed))
		want := map[string]string{}
		for range draw(40) {
			want[testrows.Text(draw, 4)] = testrows.Text(draw, 4)
		}
		plain, drawn := kind().Hold(t, 200), kind().Hold(t, 200)
		for _, key := range slices.Sorted(maps.Keys(want)) {
			plain.Put(key, want[key])
		}
		for range 200 {
			if key := testrows.Text(draw, 4); draw(3) > 0 {
				drawn.TryPut(key, "other")
			} else {
				drawn.Delete(key)
			}
		}
		for _, p := range testtrees.Sorted(drawn.M) {
			if _, is := want[p.Key]; !is {
				drawn.Delete(p.Key)
			}
		}
		for key, value := range want {
			drawn.Put(key, value)
		}
		wantAlike(t, plain, drawn)
		if t.Failed() {
			t.Fatalf("the row %d", seed)
		}
	}
}

func wantAlike(t *testing.T, a, b *testtrees.Held) {
	t.Helper()
	a.Want()
	b.Want()
	if a.X.Slots() != b.X.Slots() || !slices.Equal(a.X.All(), b.X.All()) {
		t.Errorf("%d slots, %v, and %d slots, %v", a.X.Slots(), a.X.All(), b.X.Slots(), b.X.All())
	}
	for text := range nodes(slices.Collect(maps.Keys(a.M))) {
		a.WantKeys(text, text+"a")
		b.WantKeys(text, text+"a")
	}
}

func TestAllKeysDeletedInEveryOrder(t *testing.T) { // P12.6
	l := []string{"", "a", "ab", "abc", "abd", "b"}
	testrows.Each(len(l), []int{0, 1, 2, 3, 4, 5}, func(row []int) {
		if len(slices.Compact(slices.Sorted(slices.Values(row)))) < len(l) {
			return
		}
		h := kind().Hold(t, 10, l...)
		for _, i := range row {
			h.Delete(l[i])
			h.Want()
		}
		wantSlots(t, h, 1)
		if t.Failed() {
			t.Fatalf("deleted in the row %v", row)
		}
	})
}
