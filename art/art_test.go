package art_test

import (
	"fmt"
	"slices"
	"strings"
	"testing"

	"marshalling/api"
	"marshalling/arena"
	"marshalling/art"
	"marshalling/testrows"
	"marshalling/testtrees"
)

func kind() testtrees.Kind {
	return testtrees.Kind{
		New:   func(p *arena.Pool) (testtrees.Tree, api.Errno) { return art.New(p) },
		Slots: func(keys []string) int { return len(nodes(keys)) },
	}
}

// nodes are the texts of a tree's nodes: the empty one, each key, and the longest common beginning of each two.
func nodes(keys []string) map[string]bool {
	texts := map[string]bool{"": true}
	for _, a := range keys {
		texts[a] = true
		for _, b := range keys {
			texts[common(a, b)] = true
		}
	}
	return texts
}

func common(a, b string) string {
	n := 0
	for n < len(a) && n < len(b) && a[n] == b[n] {
		n++
	}
	return a[:n]
}

func wantSlots(t *testing.T, h *testtrees.Held, slots int) {
	t.Helper()
	if h.X.Slots() != slots {
		t.Errorf("Slots = %d, want %d", h.X.Slots(), slots)
	}
}

func TestTheDocumentsExamples(t *testing.T) { // P12.1 to P12.5
	h := kind().Hold(t, 6)
	h.Put("ab", "1")
	h.Put("ac", "2")
	wantSlots(t, h, 4)
	h.Put("a", "3")
	wantSlots(t, h, 4)
	h.Put("xyz", "4")
	testtrees.WantPut(t, h.X, "xyw", "5", "", false, api.ErrFull)
	wantSlots(t, h, 5)
	testtrees.WantGet(t, h.X, "xy", "", false)
	testtrees.WantDelete(t, h.X, "a", "3", true)
	wantSlots(t, h, 5)
	testtrees.WantDelete(t, h.X, "ab", "1", true)
	wantSlots(t, h, 3)
	testtrees.WantNext(t, h.X, "ab", false, "ac", "2", true)
	testtrees.WantNext(t, h.X, "ac", true, "xyz", "4", true)
	h.X.Drop()
	testtrees.WantPut(t, h.X, "q", "1", "", false, api.ErrGone)
	if v, found, again := h.X.Get("ac", nil); v != "" || found || !again {
		t.Errorf("Get behind Drop = %q, %v, %v", v, found, again)
	}
}

func TestNew(t *testing.T) { // P12.1
	kind().Fresh(t)
}

func TestNewWithoutASlot(t *testing.T) { // P12.1
	taken := kind().Hold(t, 3).Pool
	kind().HoldIn(t, taken)
	arena.New[int](taken).Alloc(7)
	for name, p := range map[string]*arena.Pool{"nil": nil, "full": taken, "one that NewPool did not make": {}} {
		if x, e := art.New(p); x != nil || e != api.ErrFull {
			t.Errorf("New of a pool, %s: %v, %d, want ErrFull", name, x, e)
		}
	}
	if taken.Live() != 3 {
		t.Errorf("%d slots are taken", taken.Live())
	}
}

func TestKeysOfAllKinds(t *testing.T) { // P12.2 to P12.4, P12.6
	kind().OddKeys(t)
}

func TestEveryOrderOfKeys(t *testing.T) { // P12.2 to P12.4, P12.6
	for name, l := range testtrees.Orders(60) {
		t.Run(name, func(t *testing.T) { kind().Row(t, l) })
	}
}

// TestTextsOfFewBytes has keys of which most begin others.
func TestTextsOfFewBytes(t *testing.T) { // P12.2 to P12.4, P12.6
	for _, few := range []string{"ab", "\x00\xff"} {
		var l []string
		for n := range 5 {
			testrows.Each(n, []byte(few), func(row []byte) { l = append(l, string(row)) })
		}
		rising := slices.Sorted(slices.Values(l))
		falling := slices.Clone(rising)
		slices.Reverse(falling)
		longest := slices.Clone(l)
		slices.Reverse(longest)
		for _, row := range [][]string{l, longest, rising, falling} {
			kind().Row(t, row)
		}
	}
}

// TestAllBytes has nodes with as many kids as there are bytes: the root, one that is a key, and one that is none.
func TestAllBytes(t *testing.T) { // P12.2 to P12.4
	for _, tell := range []struct {
		first []string // what is put ahead of the others
		head  string   // of the others
	}{
		{nil, ""}, {[]string{""}, ""}, {[]string{"head"}, "head"}, {[]string{"head\x7fa", "head\x7fb"}, "head"},
	} {
		for _, stride := range []int{1, 255, 77} { // rising, falling, mixed
			h := kind().Hold(t, 300, tell.first...)
			for i := range 256 {
				h.Put(tell.head+string([]byte{byte(i * stride)}), fmt.Sprint(i))
				if i%32 < 2 {
					h.Want()
				}
			}
			h.Want()
			h.WantRow()
			for i := range 256 {
				key := tell.head + string([]byte{byte(i*stride + 3)})
				h.WantKeys(key)
				h.Delete(key)
				h.WantKeys(key)
			}
			h.Want()
		}
	}
}

func TestWhereKeysPart(t *testing.T) { // P12.3, P12.4, P12.6
	long := strings.Repeat("long", 50)
	for _, tell := range []struct {
		keys  []string
		slots int
	}{
		{nil, 1},
		{[]string{""}, 1},
		{[]string{"a"}, 2},
		{[]string{"", "a"}, 2},
		{[]string{"a", "b"}, 3}, // at their first byte: at the root
		{[]string{"\x00", "\xff"}, 3},
		{[]string{"axy", "bxy"}, 3},
		{[]string{"ab", "ac"}, 4},
		{[]string{"a\x00", "a\xff"}, 4},
		{[]string{"a", "ab", "ac"}, 4},
		{[]string{"a", "ab"}, 3}, // one begins the other
		{[]string{"a", "a\x00"}, 3},
		{[]string{"a", "ab", "abc", "abcd"}, 5},
		{[]string{"abc", "abd", "abx"}, 5},             // all at one place
		{[]string{"aab", "aac", "ab"}, 6},              // at two places
		{[]string{"abx", "aby", "acx", "acy"}, 8},      // at three
		{[]string{"abx", "aby", "ab", "ac", "a"}, 6},   // at two that are keys
		{[]string{long + "a", long + "b"}, 4},          // behind a long common beginning
		{[]string{long + "a", long + "b", long}, 4},    // that is a key
		{[]string{long + "a", long + "b", "longl"}, 5}, // that another key begins
		{[]string{long + "a", long[:9] + "b", ""}, 4},
	} {
		holdSlots(t, tell.keys, tell.slots)
		back := slices.Clone(tell.keys)
		slices.Reverse(back)
		holdSlots(t, back, tell.slots)
	}
}

func holdSlots(t *testing.T, keys []string, slots int) {
	t.Helper()
	h := kind().Hold(t, 20, keys...)
	wantSlots(t, h, slots)
	h.Want()
	h.WantKeys(keys...)
	for _, key := range keys {
		h.Delete(key)
		h.Want()
		h.WantKeys(keys...)
	}
	wantSlots(t, h, 1)
	if t.Failed() {
		t.Fatalf("with the keys %q", keys)
	}
}

func TestNextAtTheEdges(t *testing.T) { // P12.2
	h := kind().Hold(t, 20, "b", "bc", "bd\x00", "d")
	next := func(key string, after bool, want string) {
		t.Helper()
		value := ""
		if want != "" {
			value = "v" + want
		}
		testtrees.WantNext(t, h.X, key, after, want, value, want != "")
	}
	next("", false, "b")
	next("", true, "b")
	next("a", false, "b")
	next("a\xff", true, "b")
	next("b", false, "b")
	next("b", true, "bc")
	next("b\x00", false, "bc")
	next("bb\xff", false, "bc")
	next("bc", true, "bd\x00")
	next("bca", false, "bd\x00")
	next("bd", false, "bd\x00")
	next("bd", true, "bd\x00")
	next("bd\x00", true, "d")
	next("bd\x00\x00", false, "d")
	next("c", false, "d")
	next("d", false, "d")
	next("d", true, "")
	next("d\x00", false, "")
	next("e", false, "")
	next("\xff\xff", true, "")
	h.Put("", "none")
	testtrees.WantNext(t, h.X, "", false, "", "none", true)
	next("", true, "b")
}

func TestKeysOfAnyLength(t *testing.T) { // P12.2 to P12.4
	long := strings.Repeat("k", 1<<16)
	h := kind().Hold(t, 20, long, long[1:], long+"\x00", long[:1<<15]+"\x00", long[:1<<15], "k")
	h.Want()
	h.WantKeys(long, long[1:], long[:1<<15], "k", "")
	h.WantRow()
	for _, key := range []string{long[:1<<15], long, "k", long[1:]} {
		h.Delete(key)
		h.Want()
		h.WantKeys(long, "")
	}
}

// TestKeysThatBeginOneAnother has a node below each node.
func TestKeysThatBeginOneAnother(t *testing.T) { // P12.2 to P12.4
	long := strings.Repeat("a", 4000)
	h := kind().Hold(t, api.MaxSlots)
	for i := range 1000 {
		h.Put(long[:i*7%1000*4], "v") // 7 and 1000 have no divisor in common
	}
	wantSlots(t, h, 1000)
	testtrees.WantAll(t, h.X, h.M)
	h.WantKeys(long[:1998], long[:1999], long[:2000], long)
	for i := range 500 {
		h.Delete(long[:i*8])
	}
	wantSlots(t, h, 501)
	testtrees.WantAll(t, h.X, h.M)
	h.WantKeys("", long[:2000], long)
	h.WantRow()
}

func TestSeveralTreesInOnePool(t *testing.T) { // P12.3, P12.5, P12.6
	kind().Several(t)
}

func TestDrop(t *testing.T) { // P12.5
	kind().Dropped(t)
}

func TestDroppedInAFullPool(t *testing.T) { // P12.3, P12.5: of both errors ErrGone
	kind().DroppedInAFullPool(t)
}

func TestNoTree(t *testing.T) { // P12.5
	for range 2 {
		var x *art.Tree
		testtrees.WantNoTree(t, x, api.ErrNil, true)
		x.Drop()
	}
}

func TestATreeThatNewDidNotMake(t *testing.T) { // R1: the chapter does not say what it is
	var x art.Tree
	x.Get("a", nil)
	x.Next("a", true, func() {})
	x.Put("a", "1")
	x.Delete("a")
	x.Len()
	x.Slots()
	x.All()
	x.Check()
	x.Drop()
}

func TestAllIsWrittenOver(t *testing.T) { // R4
	kind().WrittenOver(t)
}
