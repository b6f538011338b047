package blink_test

import (
	"testing"
)

func TestEveryOrderOfSevenKeys(t *testing.T) { // P10.2, P10.6
	kind().Orders(t, []string{"", "a", "a\x00", "b", "\x7f", "\x80", "\xff"})
}

// TestEveryShortRowOfWrites begins with four keys, so that one more splits the leaf.
func TestEveryShortRowOfWrites(t *testing.T) { // P10.2, P10.3, P10.6
	kind().ShortRows(t, 4, []string{"a", "c", "e", "g", "b", "f"}, 4)
}

func TestLongRowsOfWrites(t *testing.T) { // P10.2, P10.3, P10.6
	for seed := range 60 {
		kind().LongRow(t, seed)
	}
}
