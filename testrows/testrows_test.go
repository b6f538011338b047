package testrows_test

import (
	"slices"
	"testing"

	"marshalling/testrows"
)

func TestEach(t *testing.T) {
	for _, tell := range []struct {
		n      int
		things string
		want   []string
	}{
		{0, "ab", []string{""}},
		{1, "ab", []string{"a", "b"}},
		{2, "ab", []string{"aa", "ab", "ba", "bb"}},
		{3, "a", []string{"aaa"}},
		{2, "", nil},
	} {
		var got []string
		testrows.Each(tell.n, []byte(tell.things), func(row []byte) { got = append(got, string(row)) })
		if !slices.Equal(got, tell.want) {
			t.Errorf("the rows of %d of %q: %q, want %q", tell.n, tell.things, got, tell.want)
		}
	}
}

func TestDraws(t *testing.T) {
	one, same, other := testrows.Draws(1), testrows.Draws(1), testrows.Draws(2)
	var count [10]int
	differ := 0
	for range 1000 {
		x := one(10)
		if y := same(10); y != x {
			t.Fatalf("the same seed: %d, then %d", x, y)
		}
		if other(10) != x {
			differ++
		}
		count[x]++
	}
	if slices.Min(count[:]) < 50 || differ < 500 {
		t.Errorf("the numbers 0 to 9 are told so often: %v; of another seed %d are others", count, differ)
	}
}

func TestText(t *testing.T) {
	draw := testrows.Draws(3)
	told := map[string]bool{}
	for range 1000 {
		told[testrows.Text(draw, 2)] = true
	}
	if want := 1 + 5 + 25; len(told) != want || !told[""] || !told["\x80\xff"] {
		t.Errorf("%d texts of up to two bytes, want %d", len(told), want)
	}
}
