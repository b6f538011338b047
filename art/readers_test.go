package art_test

import (
	"fmt"
	"maps"
	"slices"
	"strings"
	"testing"

	"marshalling/testrows"
	"marshalling/testtrees"
)

// sets are the keys of some trees, and looks what readers ask them for.
func sets() [][]string {
	return [][]string{
		nil,
		{""},
		{"abc", "abd"},
		{"", "abc", "abd", "abde", "b\x00", "\xff"},
		{"a", "ab", "abc", "abcd", "abcde"},
		testtrees.Orders(24)["in strides"],
	}
}

func looks() []string {
	return []string{"", "a", "ab", "abc", "abcde", "abd", "abde", "b", testtrees.Key(0), testtrees.Key(11), "z", "\xff"}
}

// reader asks a tree for a key; what it tells is zero where it has found nothing.
type reader struct {
	name string
	ask  func(x testtrees.Tree, key string, visit func()) (k, v string, found, again bool)
}

func readers() []reader {
	get := func(x testtrees.Tree, key string, visit func()) (string, string, bool, bool) {
		v, found, again := x.Get(key, visit)
		return "", v, found, again
	}
	next := func(x testtrees.Tree, key string, visit func()) (string, string, bool, bool) {
		return x.Next(key, false, visit)
	}
	after := func(x testtrees.Tree, key string, visit func()) (string, string, bool, bool) {
		return x.Next(key, true, visit)
	}
	return []reader{{"Get", get}, {"Next", next}, {"Next behind", after}}
}

// wantAlone wants that a reader with that visit, which does nothing to the tree, tells what one without a visit does.
func (r reader) wantAlone(t *testing.T, h *testtrees.Held, key string, visit func()) {
	t.Helper()
	k, v, found, again := r.ask(h.X, key, visit)
	if k1, v1, is, no := r.ask(h.X, key, nil); k != k1 || v != v1 || found != is || again || no {
		t.Errorf("%s(%q) = %q, %q, %v, %v, and without a visit %q, %q, %v, %v", r.name, key, k, v, found, again, k1, v1, is, no)
	}
	h.WantKeys(key)
}

func TestVisitsAreAheadOfEachNode(t *testing.T) { // P12.2: a reader comes to a key by all that begin it
	for _, keys := range sets() {
		h := kind().Hold(t, 100, keys...)
		for _, key := range keys {
			line := 0
			for text := range nodes(keys) {
				if strings.HasPrefix(key, text) {
					line++
				}
			}
			get, next := 0, 0
			h.X.Get(key, func() { get++ })
			h.X.Next(key, false, func() { next++ })
			if get != line || next < line {
				t.Errorf("of %q: Get(%q) visits %d nodes, Next %d, want %d", keys, key, get, next, line)
			}
		}
		none := 0
		h.X.Get("absent", func() { none++ })
		h.X.Next("\xff\xff", true, func() { none++ })
		if none < 2 {
			t.Errorf("readers that find nothing visit %d nodes", none)
		}
	}
}

func TestReadersThatMeetReaders(t *testing.T) { // P12.2: reading does nothing to a tree
	for _, keys := range sets() {
		h := kind().Hold(t, 100, keys...)
		visit := func() {
			h.X.Next("ab", true, func() { h.X.Get("abd", func() { h.X.Len() }) })
			h.Want()
		}
		for _, key := range looks() {
			for _, r := range readers() {
				r.wantAlone(t, h, key, visit)
			}
		}
	}
}

func TestReadersThatMeetOtherTrees(t *testing.T) { // P12.2: what is done to another tree of the pool is nothing to this one
	for _, keys := range sets() {
		h := kind().Hold(t, 300, keys...)
		other, n := kind().HoldIn(t, h.Pool), 0
		visit := func() {
			n++
			for _, key := range keys {
				if n%2 > 0 {
					other.Put(key, "other")
				} else {
					other.Delete(key)
				}
			}
			if n%5 == 0 {
				other.X.Drop()
				other = kind().HoldIn(t, h.Pool)
			}
		}
		for _, key := range looks() {
			for _, r := range readers() {
				r.wantAlone(t, h, key, visit)
			}
		}
		h.WantShared()
	}
}

// deed is what is done to a tree in a visit of a reader that looks for key. It is done by whole calls, and is as much as the tree needs.
type deed struct {
	name string
	do   func(h *testtrees.Held, key string)
}

func deeds() []deed {
	put := func(h *testtrees.Held, key string) { h.TryPut(key, "new") }
	around := func(h *testtrees.Held, key string) { // new nodes above it and below it, and beside it
		for i := range len(key) {
			put(h, key[:i])
			put(h, key[:i]+"~")
			put(h, key+key[:i+1])
		}
		put(h, key+"\x00")
		put(h, key+"\xff")
	}
	deleteAll := func(h *testtrees.Held, _ string) {
		for key := range maps.Clone(h.M) {
			h.Delete(key)
		}
	}
	beginnings := func(h *testtrees.Held, key string) {
		for i := range len(key) + 1 {
			h.Delete(key[:i])
		}
	}
	others := func(h *testtrees.Held, _ string) { // nodes of other texts in the slots of those that were there
		h.Delete("abd")
		for i := range 20 {
			put(h, fmt.Sprint("zz", i))
		}
	}
	drop := func(h *testtrees.Held, _ string) {
		h.X.Drop()
		clear(h.M)
		other := kind().HoldIn(h, h.Pool)
		other.Put("abc", "another tree's, in a slot that this one had")
	}
	return []deed{
		{"put", put},
		{"delete", func(h *testtrees.Held, key string) { h.Delete(key) }},
		{"around", around},
		{"delete all", deleteAll},
		{"delete what begins it", beginnings},
		{"delete, and put again", func(h *testtrees.Held, key string) { h.Delete(key); put(h, key) }},
		{"delete all, then around", func(h *testtrees.Held, key string) { deleteAll(h, key); around(h, key) }},
		{"delete all, then others", func(h *testtrees.Held, key string) { deleteAll(h, key); others(h, key) }},
		{"around, then delete all", func(h *testtrees.Held, key string) { around(h, key); deleteAll(h, key) }},
		{"others, then what begins it", func(h *testtrees.Held, key string) { others(h, key); beginnings(h, key) }},
		{"drop", drop},
		{"around, then drop", func(h *testtrees.Held, key string) { around(h, key); drop(h, key) }},
	}
}

func TestEveryDeedInEveryVisit(t *testing.T) { // P12.7
	for _, keys := range sets() {
		for _, look := range looks() {
			for _, d := range deeds() {
				for at := range 5 {
					for _, every := range []bool{false, true} {
						holdReaders(t, keys, look, d, at, every)
					}
				}
			}
		}
	}
}

// holdReaders asks for look in trees of these keys, in whose visit number at (every: and in those behind it) the deed is done, and wants that the reader ends.
func holdReaders(t *testing.T, keys []string, look string, d deed, at int, every bool) {
	t.Helper()
	for _, r := range readers() {
		h, n := kind().Hold(t, 400, keys...), 0
		k, v, found, _ := r.ask(h.X, look, func() {
			if (n == at || every && n > at && n < at+6) && h.X.Slots() > 0 { // but to a tree that is dropped nothing
				d.do(h, look)
			}
			if n++; n > 10000 {
				t.Fatalf("%s(%q) of %q does not end: %s in the visit %d (and behind it: %v)", r.name, look, keys, d.name, at, every)
			}
		})
		if !found && (k != "" || v != "") {
			t.Errorf("%s(%q) has found nothing, and tells %q, %q", r.name, look, k, v)
		}
		holdBehind(t, h, look)
		if t.Failed() {
			t.Fatalf("%s(%q) of %q, %s in the visit %d (and behind it: %v)", r.name, look, keys, d.name, at, every)
		}
	}
}

// holdBehind wants that a tree, behind its reader, is what was done to it.
func holdBehind(t *testing.T, h *testtrees.Held, look string) {
	t.Helper()
	if h.X.Slots() > 0 {
		h.Want()
		h.WantKeys(look)
		return
	}
	testtrees.WantAgain(t, h.X)
}

// TestReadersBeforeWhomATreeGrows puts a key behind the one that a reader has come to, in each of its visits.
func TestReadersBeforeWhomATreeGrows(t *testing.T) { // P12.7
	long := strings.Repeat("a", 400)
	for _, puts := range []int{1, 50, 400} {
		for _, r := range readers() {
			h, n := kind().Hold(t, 500), 0
			r.ask(h.X, long, func() {
				if n++; n <= puts {
					h.Put(long[:n], "v")
				}
				if n > 10000 {
					t.Fatalf("%s does not end, where %d keys were put", r.name, puts)
				}
			})
			h.Want()
		}
	}
}

func TestDrawnWritesInVisits(t *testing.T) { // P12.7
	for seed := range 60 {
		draw := testrows.Draws(uint64(seed))
		h := kind().Hold(t, 1+draw(80))
		for range 60 {
			n, r := 0, readers()[draw(3)]
			r.ask(h.X, testrows.Text(draw, 4), func() {
				for range draw(12) {
					if key := testrows.Text(draw, 4); draw(3) > 0 {
						h.TryPut(key, "v")
					} else {
						h.Delete(key)
					}
				}
				if n++; n > 10000 {
					t.Fatalf("%s does not end in the row %d", r.name, seed)
				}
			})
		}
		h.Want()
		h.WantKeys(slices.Collect(maps.Keys(h.M))...)
		if t.Failed() {
			t.Fatalf("the row %d", seed)
		}
	}
}
