package omap_test

import (
	"maps"
	"slices"
	"strings"
	"testing"

	"marshalling/api"
	"marshalling/omap"
	"marshalling/testrows"
)

// model is the document's table said once more, of a map of the language's own.
type model map[string]string

func refusedByModel(op api.Op) api.Errno {
	key := len(op.Key) > 24
	value := len(op.Value) > 32
	switch {
	case op.Kind == api.Get && key, op.Kind == api.Delete && key, op.Kind == api.Next && key:
		return api.ErrLarge
	case op.Kind == api.Put && (key || value):
		return api.ErrLarge
	case op.Kind == api.Swap && (key || value || len(op.Old) > 32 && op.Had):
		return api.ErrLarge
	case op.Kind == api.Batch && len(op.Writes) > 8:
		return api.ErrLong
	case op.Kind == api.Batch && slices.ContainsFunc(op.Writes, func(w api.Write) bool { return len(w.Key) > 24 || len(w.Value) > 32 && !w.Gone }):
		return api.ErrLarge
	case op.Kind < api.Get || op.Kind > api.Batch:
		return api.ErrKind
	}
	return api.OK
}

func (m model) do(op api.Op) api.Answer {
	if e := refusedByModel(op); e != api.OK {
		return api.Answer{Code: e}
	}
	had, there := m[op.Key]
	switch op.Kind {
	case api.Put:
		m[op.Key] = op.Value
	case api.Delete:
		delete(m, op.Key)
	case api.Swap:
		done := !op.Had && !there || op.Had && there && had == op.Old
		if done {
			m[op.Key] = op.Value
		}
		return api.Answer{Found: done, Value: had}
	case api.Next:
		return m.next(op)
	case api.Batch:
		for _, w := range op.Writes {
			m[w.Key] = w.Value
			if w.Gone {
				delete(m, w.Key)
			}
		}
		return api.Answer{}
	}
	return api.Answer{Found: there, Value: had}
}

func (m model) next(op api.Op) api.Answer {
	var a api.Answer
	for key, value := range m {
		if key >= op.Key && !(op.After && key == op.Key) && (!a.Found || key < a.Key) {
			a = api.Answer{Found: true, Key: key, Value: value}
		}
	}
	return a
}

func (m model) all() []api.Pair {
	var l []api.Pair
	for _, key := range slices.Sorted(maps.Keys(m)) {
		l = append(l, has(key, m[key]))
	}
	return l
}

// walked is what Next tells from the empty key on, again and again.
func walked(m *omap.Map) []api.Pair {
	var l []api.Pair
	for a := m.Do(next("")); a.Found; a = m.Do(after(a.Key)) {
		l = append(l, has(a.Key, a.Value))
	}
	return l
}

// holdMap holds all that is told of a map against the model.
func holdMap(t *testing.T, m *omap.Map, want model, keys []string) {
	t.Helper()
	wantAll(t, m, want.all()...)
	if l := walked(m); !slices.Equal(l, want.all()) {
		t.Errorf("Next, again and again, tells %q, want %q", l, want.all())
	}
	for _, key := range keys {
		for _, op := range []api.Op{get(key), next(key), after(key)} {
			wantDo(t, m, op, want.do(op))
		}
	}
}

func TestEveryShortRowIsAsTheModel(t *testing.T) { // P7.2, P7.4
	keys := []string{"", "a", "a\x00", "b", "\x80"}
	ops := []api.Op{{}, {Kind: 7, Key: "a"}, put("a", strings.Repeat("v", 33)), batch(gone("a"), gone(strings.Repeat("k", 25))), batch()}
	for _, key := range []string{"a", "a\x00", "\x80"} {
		ops = append(ops, put(key, ""), put(key, "1"), del(key), swap(key, "2"), swapOld(key, "3", ""), swapOld(key, "3", "1"))
	}
	ops = append(ops, batch(gone("a"), write("\x80", "1")), batch(write("a", "1"), write("a", "2"), gone("\x80")), batch(write("a", "1"), gone("a")))
	for n := range 4 {
		testrows.Each(n, ops, func(l []api.Op) {
			m, want := omap.New(nil), model{}
			for _, op := range l {
				wantDo(t, m, op, want.do(op))
			}
			holdMap(t, m, want, keys)
		})
	}
}

func drawOp(draw func(n int) int) api.Op {
	op := api.Op{Kind: uint8(1 + draw(6)), Key: testrows.Text(draw, 3), Value: testrows.Text(draw, 1), Old: testrows.Text(draw, 1), Had: draw(2) == 0, After: draw(2) == 0}
	for range draw(10) {
		op.Writes = append(op.Writes, api.Write{Key: testrows.Text(draw, 3), Value: testrows.Text(draw, 1), Gone: draw(2) == 0})
	}
	switch draw(20) {
	case 0:
		op.Kind = uint8(draw(256))
	case 1:
		op.Key = testrows.Text(draw, 27)
	case 2:
		op.Value = testrows.Text(draw, 36)
	case 3:
		op.Old = testrows.Text(draw, 36)
	case 4:
		op.Writes = append(op.Writes, api.Write{Key: testrows.Text(draw, 27), Value: testrows.Text(draw, 36), Gone: draw(2) == 0})
	}
	return op
}

func TestLongRowsAreAsTheModel(t *testing.T) { // P7.1, P7.2, P7.4
	for seed := range 200 {
		draw := testrows.Draws(uint64(seed))
		m, want := omap.New(nil), model{}
		for range 300 {
			op := drawOp(draw)
			if got := omap.Refused(op); got != refusedByModel(op) {
				t.Errorf("Refused(%+v) = %d", op, got)
			}
			wantDo(t, m, op, want.do(op))
			if draw(20) == 0 {
				holdMap(t, m, want, []string{op.Key[:min(3, len(op.Key))], testrows.Text(draw, 3)})
			}
		}
		holdMap(t, m, want, nil)
		wantAll(t, omap.New(m.All()), want.all()...)
		if t.Failed() {
			t.Fatalf("the row of the seed %d", seed)
		}
	}
}

func TestNewIsPutsOneBehindTheOther(t *testing.T) { // P7.1
	for seed := range 300 {
		draw := testrows.Draws(uint64(seed))
		var l []api.Pair
		want := model{}
		for range draw(60) {
			l = append(l, has(testrows.Text(draw, 2), testrows.Text(draw, 3)))
			want[l[len(l)-1].Key] = l[len(l)-1].Value
		}
		holdMap(t, omap.New(l), want, []string{testrows.Text(draw, 2), testrows.Text(draw, 3)})
	}
}

// names tells whether op may touch key.
func names(op api.Op, key string) bool {
	if op.Kind == api.Batch {
		return slices.ContainsFunc(op.Writes, func(w api.Write) bool { return w.Key == key })
	}
	return op.Kind != api.Get && op.Kind != api.Next && op.Key == key
}

func TestNoOtherKeyIsTouched(t *testing.T) { // P7.4
	draw := testrows.Draws(7)
	m := omap.New(nil)
	for range 20000 {
		op := drawOp(draw)
		// Half of the operations name a key that is there.
		if a := m.Do(next(op.Key[:min(3, len(op.Key))])); a.Found && draw(2) == 0 {
			op.Key = a.Key
		}
		others := slices.DeleteFunc(m.All(), func(p api.Pair) bool { return names(op, p.Key) })
		m.Do(op)
		left := slices.DeleteFunc(m.All(), func(p api.Pair) bool { return names(op, p.Key) })
		if !slices.Equal(left, others) {
			t.Fatalf("Do(%+v) has made %q of %q", op, left, others)
		}
	}
}

func TestABatchIsItsWritesAsPutsAndDeletes(t *testing.T) { // P7.4
	draw := testrows.Draws(9)
	one, two := omap.New(nil), omap.New(nil)
	for range 5000 {
		op := drawOp(draw)
		op.Kind = api.Batch
		if omap.Refused(op) != api.OK {
			continue
		}
		wantDo(t, one, op, none)
		for _, w := range op.Writes {
			if w.Gone {
				two.Do(del(w.Key))
			} else {
				two.Do(put(w.Key, w.Value))
			}
		}
		wantAll(t, one, two.All()...)
	}
	if one.Len() == 0 {
		t.Errorf("no key is left")
	}
}

func TestGetTellsWhatWasGivenLast(t *testing.T) { // P7.4
	m := several()
	wantDo(t, m, put("k", "1"), none)
	wantDo(t, m, get("k"), found("1"))
	wantDo(t, m, swapOld("k", "2", "0"), api.Answer{Value: "1"})
	wantDo(t, m, get("k"), found("1"))
	wantDo(t, m, swapOld("k", "2", "1"), found("1"))
	wantDo(t, m, get("k"), found("2"))
	wantDo(t, m, batch(write("k", "3"), write("k", "4"), write("l", "5")), none)
	wantDo(t, m, get("k"), found("4"))
	wantDo(t, m, put("k", strings.Repeat("v", 33)), refusal(api.ErrLarge))
	wantDo(t, m, get("k"), found("4"))
	wantDo(t, m, del("k"), found("4"))
	wantDo(t, m, get("k"), none)
	wantDo(t, m, swap("k", "6"), found(""))
	wantDo(t, m, get("k"), found("6"))
	wantDo(t, m, batch(write("k", "7"), gone("k")), none)
	wantDo(t, m, get("k"), none)
	wantDo(t, m, batch(gone("k"), write("k", "8")), none)
	wantDo(t, m, get("k"), found("8"))
}
