package blink_test

import (
	"fmt"
	"slices"
	"strings"
	"testing"

	"marshalling/api"
	"marshalling/arena"
	"marshalling/blink"
)

func newPool(t *testing.T, slots int) *arena.Pool {
	t.Helper()
	p, e := arena.NewPool(slots)
	if e != api.OK {
		t.Fatalf("NewPool(%d): %d", slots, e)
	}
	return p
}

func newTree(t *testing.T, p *arena.Pool) *blink.Tree {
	t.Helper()
	x, e := blink.New(p)
	if x == nil || e != api.OK {
		t.Fatalf("New: %v, %d", x, e)
	}
	return x
}

// treeOf is one of a pool of its own, with the keys put in their row; each key's value is v and the key.
func treeOf(t *testing.T, keys ...string) (*blink.Tree, *arena.Pool) {
	t.Helper()
	p := newPool(t, api.MaxSlots)
	x := newTree(t, p)
	for _, key := range keys {
		wantPut(t, x, key, "v"+key, "", false, api.OK)
	}
	return x, p
}

func wantPut(t *testing.T, x *blink.Tree, key, value, old string, had bool, e api.Errno) {
	t.Helper()
	if was, there, errno := x.Put(key, value); was != old || there != had || errno != e {
		t.Errorf("Put(%q, %q) = %q, %v, %d, want %q, %v, %d", key, value, was, there, errno, old, had, e)
	}
}

func wantDelete(t *testing.T, x *blink.Tree, key, old string, had bool) {
	t.Helper()
	if was, there := x.Delete(key); was != old || there != had {
		t.Errorf("Delete(%q) = %q, %v, want %q, %v", key, was, there, old, had)
	}
}

func wantGet(t *testing.T, x *blink.Tree, key, value string, found bool) {
	t.Helper()
	if v, is, again := x.Get(key, nil); v != value || is != found || again {
		t.Errorf("Get(%q) = %q, %v, %v, want %q, %v, false", key, v, is, again, value, found)
	}
}

func wantNext(t *testing.T, x *blink.Tree, key string, after bool, k, v string, found bool) {
	t.Helper()
	if key1, value, is, again := x.Next(key, after, nil); key1 != k || value != v || is != found || again {
		t.Errorf("Next(%q, %v) = %q, %q, %v, %v, want %q, %q, %v, false", key, after, key1, value, is, again, k, v, found)
	}
}

// wantAgain wants that readers tell nothing but that the tree is not there.
func wantAgain(t *testing.T, x *blink.Tree) {
	t.Helper()
	for _, key := range []string{"", "a", "b", "\xff"} {
		for _, visit := range []func(){nil, func() {}} {
			if v, found, again := x.Get(key, visit); v != "" || found || !again {
				t.Errorf("Get(%q) = %q, %v, %v, want again alone", key, v, found, again)
			}
			for _, after := range []bool{false, true} {
				if k, v, found, again := x.Next(key, after, visit); k != "" || v != "" || found || !again {
					t.Errorf("Next(%q, %v) = %q, %q, %v, %v, want again alone", key, after, k, v, found, again)
				}
			}
		}
	}
}

// wantAll wants that the tree is right, and has these keys, rising, with their values, whoever tells so.
func wantAll(t *testing.T, x *blink.Tree, want map[string]string) {
	t.Helper()
	l := sorted(want)
	if got := x.All(); !slices.Equal(got, l) {
		t.Errorf("All = %+q, want %+q", got, l)
	}
	if x.Len() != len(l) || !x.Check() {
		t.Errorf("Len, Check = %d, %v, want %d, true", x.Len(), x.Check(), len(l))
	}
}

func sorted(m map[string]string) []api.Pair {
	var l []api.Pair
	for key, value := range m {
		l = append(l, api.Pair{Key: key, Value: value})
	}
	slices.SortFunc(l, func(a, b api.Pair) int { return strings.Compare(a.Key, b.Key) })
	return l
}

// wantEach wants that Get and Next tell of key what the map does.
func wantEach(t *testing.T, x *blink.Tree, m map[string]string, key string) {
	t.Helper()
	value, is := m[key]
	wantGet(t, x, key, value, is)
	for _, after := range []bool{false, true} {
		k, v, found := least(m, key, after)
		wantNext(t, x, key, after, k, v, found)
	}
}

// least is the least key that is not below key (after: above it), and its value.
func least(m map[string]string, key string, after bool) (k, v string, found bool) {
	for at, value := range m {
		if (at > key || at == key && !after) && (!found || at < k) {
			k, v, found = at, value, true
		}
	}
	return k, v, found
}

func key(n int) string { return fmt.Sprintf("k%03d", n) }

// orders are the first n keys, n being even, rising, falling and mixed.
func orders(n int) map[string][]string {
	l := map[string][]string{}
	for i := range n {
		l["rising"] = append(l["rising"], key(i))
		l["falling"] = append(l["falling"], key(n-1-i))
		l["from the middle"] = append(l["from the middle"], key(n/2+(i+1)/2*(1-i%2*2)))
		l["in strides"] = append(l["in strides"], key(i*7919%n)) // 7919 has no divisor in common with an n that is not its multiple
	}
	return l
}

func TestTheDocumentsExamples(t *testing.T) { // P10.1 to P10.6
	x := newTree(t, newPool(t, 10))
	wantPut(t, x, "b", "1", "", false, api.OK)
	wantPut(t, x, "a", "2", "", false, api.OK)
	wantPut(t, x, "b", "3", "1", true, api.OK)
	wantGet(t, x, "b", "3", true)
	wantGet(t, x, "c", "", false)
	if x.Len() != 2 || x.Slots() != 1 {
		t.Errorf("Len, Slots = %d, %d, want 2, 1", x.Len(), x.Slots())
	}
	wantNext(t, x, "a", false, "a", "2", true)
	wantNext(t, x, "a", true, "b", "3", true)
	wantNext(t, x, "b", true, "", "", false)
	wantDelete(t, x, "a", "2", true)
	wantDelete(t, x, "a", "", false)
	wantAll(t, x, map[string]string{"b": "3"})
	for _, key := range []string{"c", "d", "e", "f", "g"} {
		wantPut(t, x, key, "5", "", false, api.OK)
	}
	if x.Slots() != 3 || !x.Check() {
		t.Errorf("Slots, Check = %d, %v, want 3, true", x.Slots(), x.Check())
	}
	x.Drop()
	wantAgain(t, x)
	wantPut(t, x, "b", "1", "", false, api.ErrGone)
}

func TestNew(t *testing.T) { // P10.1
	for _, slots := range []int{1, 2, 10, api.MaxSlots} {
		p := newPool(t, slots)
		x := newTree(t, p)
		wantAll(t, x, nil)
		if x.Slots() != 1 || p.Live() != 1 {
			t.Errorf("a new tree has %d nodes, its pool %d", x.Slots(), p.Live())
		}
		for _, key := range []string{"", "a", "\xff"} {
			wantEach(t, x, nil, key)
			wantDelete(t, x, key, "", false)
		}
	}
}

func TestNewWithoutASlot(t *testing.T) { // P10.1
	taken := newPool(t, 3)
	newTree(t, taken)
	newTree(t, taken)
	arena.New[int](taken).Alloc(7)
	for _, tell := range []struct {
		name string
		pool *arena.Pool
		want api.Errno
	}{
		{"nil", nil, api.ErrNil},
		{"full", taken, api.ErrFull},
		{"one that NewPool did not make", &arena.Pool{}, api.ErrFull},
	} {
		if x, e := blink.New(tell.pool); x != nil || e != tell.want {
			t.Errorf("New of a pool, %s: %v, %d, want %d", tell.name, x, e, tell.want)
		}
	}
	if taken.Live() != 3 {
		t.Errorf("%d slots are taken", taken.Live())
	}
}

// odd are keys and values of which some are empty, begin others, have bytes of 128 and more, or are long.
func odd() []string {
	return []string{"", "\x00", "\x00\x00", "a", "a\x00", "a\x00b", "aa", "ab", "b", "\x7f", "\x80", "\xc3\xa4", "\xff", "\xff\x00", "\xff\xff", strings.Repeat("k", 24), strings.Repeat("k", 25), strings.Repeat("v", 5000)}
}

func TestKeysOfAllKinds(t *testing.T) { // P10.2, P10.6
	for turn := range odd() {
		x, m := newTree(t, newPool(t, 30)), map[string]string{}
		for i := range odd() {
			key, value := odd()[(i+turn)%len(odd())], odd()[(i*5+turn)%len(odd())]
			wantPut(t, x, key, value, "", false, api.OK)
			m[key] = value
			wantAll(t, x, m)
		}
		for _, key := range odd() {
			wantEach(t, x, m, key)
			wantEach(t, x, m, key+"\x00")
			wantPut(t, x, key, "new", m[key], true, api.OK)
			m[key] = "new"
			wantEach(t, x, m, key)
			wantDelete(t, x, key, "new", true)
			delete(m, key)
			wantDelete(t, x, key, "", false)
			wantEach(t, x, m, key)
			wantAll(t, x, m)
		}
	}
}

func TestEveryOrderOfKeys(t *testing.T) { // P10.2, P10.3, P10.6
	for name, l := range orders(150) {
		t.Run(name, func(t *testing.T) {
			p := newPool(t, 200)
			x, m := newTree(t, p), map[string]string{}
			for n, key := range l {
				wantPut(t, x, key, "v"+key, "", false, api.OK)
				m[key] = "v" + key
				wantAll(t, x, m)
				if x.Slots() != p.Live() || x.Slots() > n+3 {
					t.Errorf("%d keys are put: %d nodes, %d slots are taken", n+1, x.Slots(), p.Live())
				}
			}
			for i := range l {
				wantEach(t, x, m, key(i))
				wantEach(t, x, m, key(i)+"\x00")
			}
			wantRow(t, x, m)
			slots := x.Slots()
			for n, key := range l {
				wantDelete(t, x, key, "v"+key, true)
				delete(m, key)
				wantEach(t, x, m, key)
				if n%10 == 0 {
					wantAll(t, x, m)
					wantRow(t, x, m)
				}
			}
			wantAll(t, x, nil)
			if x.Slots() != slots || p.Live() != slots {
				t.Errorf("%d nodes, %d slots are taken, where empty leaves stay: %d", x.Slots(), p.Live(), slots)
			}
		})
	}
}

// wantRow goes on from key to key, and wants that it meets all of them.
func wantRow(t *testing.T, x *blink.Tree, m map[string]string) {
	t.Helper()
	var l []api.Pair
	k, v, found, again := x.Next("", false, nil)
	for found && !again && len(l) <= len(m) {
		l = append(l, api.Pair{Key: k, Value: v})
		k, v, found, again = x.Next(k, true, nil)
	}
	if again || !slices.Equal(l, sorted(m)) {
		t.Errorf("gone through by Next: %+q, %v, want %+q", l, again, sorted(m))
	}
}

func TestLeavesThatAreEmpty(t *testing.T) { // P10.2, P10.6
	for from := range 40 {
		for to := from; to <= 40; to += 3 {
			var l []string
			m := map[string]string{}
			for i := range 40 {
				l = append(l, key(i))
				m[key(i)] = "v" + key(i)
			}
			x, p := treeOf(t, l...)
			live := p.Live()
			for i := from; i < to; i++ {
				wantDelete(t, x, key(i), "v"+key(i), true)
				delete(m, key(i))
			}
			wantAll(t, x, m)
			wantRow(t, x, m)
			for i := range 40 {
				wantEach(t, x, m, key(i))
			}
			for i := from; i < to; i++ {
				wantPut(t, x, key(i), "again", "", false, api.OK)
				m[key(i)] = "again"
			}
			wantAll(t, x, m)
			if p.Live() != live {
				t.Errorf("%d nodes, and %d when the keys are back", live, p.Live())
			}
		}
	}
}

func TestKeysAtAnEnd(t *testing.T) { // P10.2: the fifth key splits the leaf, so that the third one is the left leaf's High
	x, _ := treeOf(t, "b", "d", "f", "h", "j")
	m := map[string]string{"b": "vb", "d": "vd", "f": "vf", "h": "vh", "j": "vj"}
	for _, key := range []string{"", "a", "b", "c", "d", "e", "e\xff", "f", "f\x00", "g", "h", "j", "k"} {
		wantEach(t, x, m, key)
	}
	for _, key := range []string{"f", "e\xff", "f\x00"} {
		_, is := m[key]
		wantPut(t, x, key, "new", m[key], is, api.OK)
		m[key] = "new"
		wantEach(t, x, m, key)
		wantEach(t, x, m, "f")
		wantAll(t, x, m)
		wantDelete(t, x, key, "new", true)
		delete(m, key)
		wantDelete(t, x, key, "", false)
		wantEach(t, x, m, key)
		wantEach(t, x, m, "f")
		wantAll(t, x, m)
	}
}

func TestSeveralTreesInOnePool(t *testing.T) { // P10.3, P10.6
	p := newPool(t, 400)
	numbers := arena.New[int](p)
	var trees []*blink.Tree
	var maps []map[string]string
	for range 3 {
		trees, maps = append(trees, newTree(t, p)), append(maps, map[string]string{})
	}
	for i := range 200 {
		at, k := i%3, key(i*37%200)
		wantPut(t, trees[at], k, fmt.Sprint(i), "", false, api.OK)
		maps[at][k] = fmt.Sprint(i)
		if i%20 == 0 {
			numbers.Alloc(i)
		}
		if live := trees[0].Slots() + trees[1].Slots() + trees[2].Slots() + numbers.Live(); p.Live() != live {
			t.Fatalf("%d slots are taken by %d nodes and numbers", p.Live(), live)
		}
	}
	for at, x := range trees {
		wantAll(t, x, maps[at])
	}
	live, own := p.Live(), trees[1].Slots()
	trees[1].Drop()
	if p.Live() != live-own || trees[1].Slots() != 0 || numbers.Live() != 10 {
		t.Errorf("%d of %d slots are taken, when one tree of %d nodes is dropped", p.Live(), live, own)
	}
	trees = append(trees, newTree(t, p)) // in slots that the dropped one had
	maps = append(maps, map[string]string{})
	for i := range 100 {
		wantPut(t, trees[3], key(i), "new", "", false, api.OK)
		maps[3][key(i)] = "new"
	}
	for _, at := range []int{0, 2, 3} {
		wantAll(t, trees[at], maps[at])
	}
	wantAgain(t, trees[1])
	trees[1].Drop()
	for _, at := range []int{0, 2, 3} {
		wantAll(t, trees[at], maps[at])
	}
}

func TestDrop(t *testing.T) { // P10.3
	for _, n := range []int{0, 1, 4, 5, 20, 100} {
		p := newPool(t, 110)
		x := newTree(t, p)
		for i := range n {
			x.Put(key(i), "v")
		}
		for range 3 {
			x.Drop()
			if p.Free() != 110 || x.Slots() != 0 || x.Len() != 0 || len(x.All()) != 0 || !x.Check() {
				t.Errorf("dropped: %d slots are free; %d nodes, %d keys, %v, Check %v", p.Free(), x.Slots(), x.Len(), x.All(), x.Check())
			}
			wantAgain(t, x)
			for _, k := range []string{"", key(0), key(n)} {
				wantPut(t, x, k, "v", "", false, api.ErrGone)
				wantDelete(t, x, k, "", false)
			}
			if p.Free() != 110 {
				t.Errorf("a dropped tree takes slots: %d are free", p.Free())
			}
		}
	}
}

func TestDroppedInAFullPool(t *testing.T) { // P10.2: of both errors ErrGone
	p := newPool(t, 3)
	x := newTree(t, p)
	x.Drop()
	for range 3 {
		newTree(t, p)
	}
	wantPut(t, x, "a", "1", "", false, api.ErrGone)
	wantAgain(t, x)
	x.Drop()
	if p.Live() != 3 {
		t.Errorf("a tree that is dropped twice frees another one's slots: %d", p.Live())
	}
}

func TestNoTree(t *testing.T) { // P10.5
	for _, x := range []*blink.Tree{nil, {}} {
		for range 2 {
			wantAgain(t, x)
			wantPut(t, x, "a", "1", "", false, api.ErrNil)
			wantPut(t, x, "", "", "", false, api.ErrNil)
			wantDelete(t, x, "a", "", false)
			if x.Len() != 0 || x.Slots() != 0 || len(x.All()) != 0 || x.Check() {
				t.Errorf("Len, Slots, All, Check = %d, %d, %v, %v", x.Len(), x.Slots(), x.All(), x.Check())
			}
			x.Drop() // it stays what it was: it was not there to be dropped
		}
	}
}

func TestAllIsWrittenOver(t *testing.T) { // R4
	x, _ := treeOf(t, orders(30)["in strides"]...)
	m := map[string]string{}
	for i := range 30 {
		m[key(i)] = "v" + key(i)
	}
	all := x.All()
	for i := range all[:cap(all)] {
		all[:cap(all)][i] = api.Pair{Key: "over", Value: "over"}
	}
	wantAll(t, x, m)
	all = x.All()
	x.Put(key(0), "new")
	x.Delete(key(1))
	x.Drop()
	if !slices.Equal(all, sorted(m)) {
		t.Errorf("what was told changes with the tree: %v", all)
	}
}
