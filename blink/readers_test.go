package blink_test

import (
	"fmt"
	"maps"
	"math"
	"slices"
	"testing"

	"marshalling/api"
	"marshalling/blink"
	"marshalling/testrows"
	"marshalling/testtrees"
)

// watched is a tree, and what is put down of it while a reader is under way.
type watched struct {
	x      *blink.Tree
	m      map[string]string // what the tree has
	stayed map[string]string // what was there all the while
	key    string            // what the reader asks for
	had    []api.Pair        // what that was, one behind the other; the Key is empty where it was not there
	gone   bool
}

func watch(t *testing.T, keys ...string) *watched {
	t.Helper()
	x, _ := treeOf(t, keys...)
	w := &watched{x: x, m: map[string]string{}}
	for _, key := range keys {
		w.m[key] = "v" + key
	}
	return w
}

// begin is called ahead of a reader.
func (w *watched) begin(key string) {
	w.key, w.stayed, w.had = key, maps.Clone(w.m), nil
	w.note()
}

func (w *watched) note() {
	value, is := w.m[w.key]
	if is {
		w.had = append(w.had, api.Pair{Key: "there", Value: value})
	} else {
		w.had = append(w.had, api.Pair{})
	}
}

func (w *watched) put(key, value string) {
	if _, _, e := w.x.Put(key, value); e == api.OK {
		w.m[key] = value
		w.note()
	}
}

func (w *watched) delete(key string) {
	w.x.Delete(key)
	delete(w.m, key)
	delete(w.stayed, key)
	w.note()
}

func (w *watched) drop() {
	w.x.Drop()
	w.gone = true
}

// wantGet wants that what a Get tells is what key had at some moment.
func (w *watched) wantGet(t *testing.T, key string, visit func()) {
	t.Helper()
	w.begin(key)
	value, found, again := w.x.Get(key, visit)
	if w.gone {
		if value != "" || found || !again {
			t.Errorf("Get(%q) of a tree that was dropped meanwhile: %q, %v, %v", key, value, found, again)
		}
		return
	}
	told := api.Pair{Value: value}
	if found {
		told.Key = "there"
	}
	if again || !slices.Contains(w.had, told) {
		t.Errorf("Get(%q) = %q, %v, %v, which it never had", key, value, found, again)
	}
}

// wantNext wants that what a Next tells stands there at its end, and that it has left out no key that was there all the while.
func (w *watched) wantNext(t *testing.T, key string, after bool, visit func()) {
	t.Helper()
	w.begin(key)
	k, v, found, again := w.x.Next(key, after, visit)
	if w.gone {
		if k != "" || v != "" || found || !again {
			t.Errorf("Next(%q, %v) of a tree that was dropped meanwhile: %q, %q, %v, %v", key, after, k, v, found, again)
		}
		return
	}
	value, is := w.m[k]
	if again || found && (!is || value != v || k < key || after && k == key) || !found && (k != "" || v != "") {
		t.Errorf("Next(%q, %v) = %q, %q, %v, %v, where it is not", key, after, k, v, found, again)
	}
	if stayed, _, is := testtrees.Least(w.stayed, key, after); is && (!found || stayed < k) {
		t.Errorf("Next(%q, %v) = %q, %v, and %q was there all the while", key, after, k, found, stayed)
	}
}

// deed is what is done to a tree in a visit of a reader that looks for key.
type deed struct {
	name string
	do   func(w *watched, key string)
}

func deeds() []deed {
	around := func(w *watched, key string) {
		for i := range 12 { // the leaf is split, and key's half is split again
			w.put(fmt.Sprintf("%s%02d", key, i), "above")
			w.put(below(key, i), "below")
		}
	}
	many := func(w *watched, _ string) {
		for i := range 150 { // all nodes are split, and there is a new root
			w.put(fmt.Sprintf("k%03dm", i*67%150), "many")
		}
	}
	none := func(w *watched, _ string) {
		for key := range maps.Clone(w.m) {
			w.delete(key)
		}
	}
	return []deed{
		{"nothing", func(*watched, string) {}},
		{"put", func(w *watched, key string) { w.put(key, "new") }},
		{"delete", func(w *watched, key string) { w.delete(key) }},
		{"delete and put", func(w *watched, key string) { w.delete(key); w.put(key, "new") }},
		{"around", around},
		{"around, and delete", func(w *watched, key string) { around(w, key); w.delete(key) }},
		{"many", many},
		{"none", none},
		{"none, then around", func(w *watched, key string) { none(w, key); around(w, key) }},
		{"many, then none", func(w *watched, key string) { many(w, key); none(w, key) }},
		{"drop", func(w *watched, _ string) { w.drop() }},
		{"many, then drop", func(w *watched, key string) { many(w, key); w.drop() }},
		{"read", func(w *watched, key string) { w.x.Get(key, nil); w.x.Next(key, true, func() { w.x.Len() }) }},
		{"read, and put in its visits", func(w *watched, key string) {
			n := 0
			w.x.Next(key, false, func() { n++; w.put(below(key, n), "in") })
		}},
	}
}

// below is one of some keys that are below key, and above all that begin less.
func below(key string, n int) string {
	if key == "" {
		return ""
	}
	last := len(key) - 1
	return fmt.Sprintf("%s%c~%02d", key[:last], key[last]-1, n)
}

func TestEveryDeedInEveryVisit(t *testing.T) { // P10.4
	for _, n := range []int{0, 1, 4, 5, 6, 14, 20, 60} {
		var l []string
		for i := range n {
			l = append(l, testtrees.Key(i*2))
		}
		for _, look := range []string{"", testtrees.Key(0), testtrees.Key(1), testtrees.Key(n / 2 * 2), testtrees.Key(n + 1), testtrees.Key(2*n - 2 + n%2), testtrees.Key(2 * n), "z"} {
			for _, d := range deeds() {
				for at := range 6 {
					for _, every := range []bool{false, true} {
						holdReaders(t, l, look, d, at, every)
					}
				}
			}
		}
	}
}

// holdReaders asks for look in trees of these keys, in whose visit number at (every: from that one on) the deed is done.
func holdReaders(t *testing.T, l []string, look string, d deed, at int, every bool) {
	t.Helper()
	for _, ask := range []func(w *watched, visit func()){
		func(w *watched, visit func()) { w.wantGet(t, look, visit) },
		func(w *watched, visit func()) { w.wantNext(t, look, false, visit) },
		func(w *watched, visit func()) { w.wantNext(t, look, true, visit) },
	} {
		w, n := watch(t, l...), 0
		ask(w, func() {
			if n == at || every && n > at && n < at+4 {
				d.do(w, look)
			}
			n++
		})
		w.holdAfter(t, look)
		if t.Failed() {
			t.Fatalf("%d keys, %s in the visit %d (and behind it: %v)", len(l), d.name, at, every)
		}
	}
}

// holdAfter wants that the tree is what was done to it, and that readers find it so.
func (w *watched) holdAfter(t *testing.T, key string) {
	t.Helper()
	if w.gone {
		testtrees.WantAgain(t, w.x)
		return
	}
	testtrees.WantAll(t, w.x, w.m)
	testtrees.WantEach(t, w.x, w.m, key)
}

func TestDroppedInAnyVisit(t *testing.T) { // P10.4: again is true from then on, were it the last look but one or the last one
	for _, n := range []int{0, 4, 5, 20, 60} {
		for i := range n + 1 {
			for _, read := range []func(x *blink.Tree, visit func()) (string, string, bool, bool){
				func(x *blink.Tree, visit func()) (string, string, bool, bool) {
					v, found, again := x.Get(testtrees.Key(i), visit)
					return "", v, found, again
				},
				func(x *blink.Tree, visit func()) (string, string, bool, bool) {
					return x.Next(testtrees.Key(i), true, visit)
				},
			} {
				l := testtrees.Orders(2 * n)["in strides"]
				looks := 0
				x, _ := treeOf(t, l...)
				read(x, func() { looks++ })
				if looks == 0 {
					t.Fatal("a reader that looks at no node")
				}
				for at := range looks {
					x, p := treeOf(t, l...)
					seen := 0
					k, v, found, again := read(x, func() {
						if seen == at {
							x.Drop()
							newTree(t, p).Put(testtrees.Key(i), "another tree's, in the same slot")
						}
						seen++
					})
					if k != "" || v != "" || found || !again {
						t.Errorf("dropped in the visit %d of %d: %q, %q, %v, %v", at, looks, k, v, found, again)
					}
				}
			}
		}
	}
}

func TestReadersThatMeetOtherTrees(t *testing.T) { // P10.4: what is done to another tree of the pool is nothing to this one
	p := newPool(t, 500)
	x, other := newTree(t, p), newTree(t, p)
	m := map[string]string{}
	for i := range 60 {
		x.Put(testtrees.Key(i), "v")
		other.Put(testtrees.Key(i), "other")
		m[testtrees.Key(i)] = "v"
	}
	n := 0
	visit := func() {
		n++
		other.Put(fmt.Sprint(n), "other")
		other.Delete(testtrees.Key(n))
		if n%50 == 0 {
			other.Drop()
			other = newTree(t, p)
		}
	}
	for i := range 61 {
		value, is := m[testtrees.Key(i)]
		if v, found, again := x.Get(testtrees.Key(i), visit); v != value || found != is || again {
			t.Errorf("Get(%q) = %q, %v, %v", testtrees.Key(i), v, found, again)
		}
		next, value, is := testtrees.Least(m, testtrees.Key(i), true)
		if k, v, found, again := x.Next(testtrees.Key(i), true, visit); k != next || v != value || found != is || again {
			t.Errorf("Next(%q, true) = %q, %q, %v, %v, want %q", testtrees.Key(i), k, v, found, again, next)
		}
	}
	testtrees.WantAll(t, x, m)
}

// TestReadersThatFindOnToTheRight has a key that moves to the right in each visit, till the pool is full.
func TestReadersThatFindOnToTheRight(t *testing.T) { // P10.4: what is there all the while is found, however far it has moved
	for n := range 30 {
		p := newPool(t, 60)
		x := newTree(t, p)
		x.Put("z", "v")
		puts := 0
		visit := func() {
			for range n {
				puts++
				x.Put(testtrees.Key(puts), "new")
			}
		}
		for range 5 {
			if v, found, again := x.Get("z", visit); v != "v" || !found || again {
				t.Errorf("%d puts a visit: Get = %q, %v, %v", n, v, found, again)
			}
			if k, v, found, again := x.Next("y", true, visit); k != "z" || v != "v" || !found || again {
				t.Errorf("%d puts a visit: Next = %q, %q, %v, %v", n, k, v, found, again)
			}
			if k, _, found, again := x.Next("z", true, visit); k != "" || found || again {
				t.Errorf("%d puts a visit: behind the last one %q, %v, %v", n, k, found, again)
			}
		}
		if n > 3 && p.Free() > 3 { // a Put that needs more slots is not done
			t.Errorf("%d puts a visit: %d slots are free", n, p.Free())
		}
	}
}

func TestDrawnWritesInVisits(t *testing.T) { // P10.4
	for seed := range 150 {
		draw := testrows.Draws(uint64(seed))
		w := watch(t)
		for range 60 {
			key := testrows.Text(draw, 3)
			visit := func() {
				for range draw(12) {
					if draw(3) > 0 {
						w.put(testrows.Text(draw, 3), testrows.Text(draw, 3))
					} else {
						w.delete(testrows.Text(draw, 3))
					}
				}
			}
			switch draw(3) {
			case 0:
				w.wantGet(t, key, visit)
			case 1:
				w.wantNext(t, key, draw(2) == 0, visit)
			case 2:
				w.put(key, testrows.Text(draw, 3))
			}
		}
		testtrees.WantAll(t, w.x, w.m)
	}
}

func TestHowManyNodesReadersVisit(t *testing.T) { // P10.2, P10.6
	for name, l := range testtrees.Orders(700) {
		t.Run(name, func(t *testing.T) {
			x, _ := treeOf(t)
			for n, k := range l {
				x.Put(k, "v")
				if x.Slots() > n+3 {
					t.Errorf("%d keys, %d nodes", n+1, x.Slots())
				}
				most := 2 + 2*math.Log2(float64(n+2))
				for _, look := range []string{"", k, k + "\x00", l[n/2], l[0], "z"} {
					get, next, after := 0, 0, 0
					x.Get(look, func() { get++ })
					x.Next(look, false, func() { next++ })
					x.Next(look, true, func() { after++ })
					if least := min(get, next, after); least < 1 || float64(max(get, next, after)) > most {
						t.Errorf("%d keys, %q: %d, %d, %d visits, at most %.1f", n+1, look, get, next, after, most)
					}
				}
			}
		})
	}
}

// looks is how many nodes a Next visits.
func looks(x *blink.Tree, key string, after bool) int {
	n := 0
	x.Next(key, after, func() { n++ })
	return n
}

func TestAVisitIsAheadOfEachNode(t *testing.T) { // P10.2: a tree of one node, of two levels, and of three
	for _, tell := range []struct{ keys, slots, levels int }{{0, 1, 1}, {4, 1, 1}, {5, 3, 2}, {12, 6, 2}, {13, 9, 3}} {
		x, _ := treeOf(t, testtrees.Orders(14)["rising"][:tell.keys]...)
		if x.Slots() != tell.slots {
			t.Errorf("%d keys: %d nodes, want %d", tell.keys, x.Slots(), tell.slots)
		}
		for i := range tell.keys + 1 {
			n := 0
			x.Get(testtrees.Key(i), func() { n++ })
			if next := looks(x, testtrees.Key(i), false); n != tell.levels || next < tell.levels {
				t.Errorf("%d keys in %d levels: Get visits %d nodes, Next %d", tell.keys, tell.levels, n, next)
			}
		}
	}
}

func TestAVisitIsAheadOfEachNeighbour(t *testing.T) { // P10.2: put in rising order, each leaf but the last one has two keys
	x, _ := treeOf(t, testtrees.Orders(40)["rising"]...)
	down := looks(x, testtrees.Key(0), false)
	for i := range 34 {
		if n, least := looks(x, testtrees.Key(i), true), down+i%2; n < least {
			t.Errorf("Next(%q, true) visits %d nodes, of at least %d", testtrees.Key(i), n, least)
		}
	}
	for i := 10; i < 20; i++ {
		x.Delete(testtrees.Key(i)) // five leaves are empty then
		if n, least := looks(x, testtrees.Key(9), true), down+1+(i-9)/2; n < least {
			t.Errorf("Next(%q, true) visits %d nodes, of at least %d", testtrees.Key(9), n, least)
		}
	}
}
