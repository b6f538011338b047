package blink_test

import (
	"maps"
	"slices"
	"strings"
	"testing"

	"marshalling/api"
	"marshalling/testrows"
)

func TestEveryOrderOfSevenKeys(t *testing.T) { // P10.2, P10.6
	l := []string{"", "a", "a\x00", "b", "\x7f", "\x80", "\xff"}
	var orders func(put []string)
	orders = func(put []string) {
		if len(put) == len(l) {
			holdKeys(t, put)
			return
		}
		for _, key := range l {
			if !slices.Contains(put, key) {
				orders(append(slices.Clone(put), key))
			}
		}
	}
	orders(nil)
}

func holdKeys(t *testing.T, put []string) {
	t.Helper()
	x, p := treeOf(t, put...)
	m := map[string]string{}
	for _, key := range put {
		m[key] = "v" + key
	}
	wantAll(t, x, m)
	if x.Slots() != p.Live() || x.Slots() > len(put)+2 {
		t.Errorf("%d nodes, %d slots are taken", x.Slots(), p.Live())
	}
	for _, key := range put {
		wantEach(t, x, m, key)
		wantEach(t, x, m, key+"\x00")
	}
	if t.Failed() {
		t.Fatalf("put in this row: %+q", put)
	}
}

// TestEveryShortRowOfWrites begins with four keys, so that one more splits the leaf.
func TestEveryShortRowOfWrites(t *testing.T) { // P10.2, P10.3, P10.6
	l := []string{"a", "c", "e", "g", "b", "f"}
	var writes []api.Write
	for _, key := range l {
		writes = append(writes, api.Write{Key: key}, api.Write{Key: key, Gone: true})
	}
	testrows.Each(4, writes, func(row []api.Write) {
		x, p := treeOf(t, l[:4]...)
		m := map[string]string{}
		for _, key := range l[:4] {
			m[key] = "v" + key
		}
		for n, w := range row {
			old, had := m[w.Key]
			if w.Gone {
				wantDelete(t, x, w.Key, old, had)
				delete(m, w.Key)
			} else {
				value := strings.Repeat("w", n)
				wantPut(t, x, w.Key, value, old, had, api.OK)
				m[w.Key] = value
			}
		}
		wantAll(t, x, m)
		if x.Slots() != p.Live() {
			t.Errorf("%d nodes, %d slots are taken", x.Slots(), p.Live())
		}
		for _, key := range l {
			wantEach(t, x, m, key)
		}
		if t.Failed() {
			t.Fatalf("the row %v", row)
		}
	})
}

func TestLongRowsOfWrites(t *testing.T) { // P10.2, P10.3, P10.6
	for seed := range 60 {
		draw := testrows.Draws(uint64(seed))
		p := newPool(t, 1+draw(60))
		x, m := newTree(t, p), map[string]string{}
		for range 400 {
			key, value := testrows.Text(draw, 3), testrows.Text(draw, 3)
			old, had := m[key]
			switch draw(4) {
			case 0, 1:
				was, there, e := x.Put(key, value)
				if e == api.OK {
					m[key] = value
				}
				if e == api.ErrFull && (had || was != "" || there) || e == api.OK && (was != old || there != had) || e != api.OK && e != api.ErrFull {
					t.Fatalf("Put(%q, %q) = %q, %v, %d, want %q, %v", key, value, was, there, e, old, had)
				}
			case 2:
				wantDelete(t, x, key, old, had)
				delete(m, key)
			case 3:
				wantEach(t, x, m, key)
			}
			if x.Len() != len(m) || !x.Check() || x.Slots() != p.Live() {
				t.Fatalf("Len, Check, Slots = %d, %v, %d, want %d, true, %d", x.Len(), x.Check(), x.Slots(), len(m), p.Live())
			}
		}
		wantAll(t, x, m)
		wantRow(t, x, m)
		for _, key := range slices.Sorted(maps.Keys(m)) {
			wantEach(t, x, m, key)
		}
		x.Drop()
		if p.Live() != 0 {
			t.Fatalf("%d slots are taken behind Drop", p.Live())
		}
	}
}
