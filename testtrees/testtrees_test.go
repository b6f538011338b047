package testtrees_test

import (
	"fmt"
	"testing"

	"marshalling/api"
	"marshalling/arena"
	"marshalling/testtrees"
)

// plain is a tree without nodes: a map, and a slot for each key, and one more.
type plain struct {
	m     map[string]string
	slots *arena.Arena[int]
	gone  bool
}

func newPlain(p *arena.Pool) (*plain, api.Errno) {
	x := &plain{map[string]string{}, arena.New[int](p), false}
	_, e := x.slots.Alloc(0)
	return x, e
}

func (x *plain) Get(key string, visit func()) (string, bool, bool) {
	v, found := x.m[key]
	return v, found, x.gone
}

func (x *plain) Next(key string, after bool, visit func()) (k, v string, found, again bool) {
	k, v, found = testtrees.Least(x.m, key, after)
	return k, v, found, x.gone
}

func (x *plain) Put(key, value string) (old string, had bool, e api.Errno) {
	if x.gone {
		return "", false, api.ErrGone
	}
	if old, had = x.m[key]; !had {
		if _, e := x.slots.Alloc(0); e != api.OK {
			return "", false, e
		}
	}
	x.m[key] = value
	return old, had, api.OK
}

func (x *plain) Delete(key string) (old string, had bool) {
	if old, had = x.m[key]; had {
		delete(x.m, key)
		x.slots.Release(x.slots.Handles()[0])
	}
	return old, had
}

func (x *plain) Len() int        { return len(x.m) }
func (x *plain) Slots() int      { return x.slots.Live() }
func (x *plain) All() []api.Pair { return testtrees.Sorted(x.m) }
func (x *plain) Check() bool     { return true }

func (x *plain) Drop() {
	clear(x.m)
	for _, h := range x.slots.Handles() {
		x.slots.Release(h)
	}
	x.gone = true
}

// note is a test that goes on, and keeps what it is told.
type note struct{ told []string }

func (n *note) Helper() {}

func (n *note) Errorf(format string, args ...any) {
	n.told = append(n.told, fmt.Sprintf(format, args...))
}

func (n *note) Fatalf(format string, args ...any) {
	n.Errorf(format, args...)
	panic(n)
}

func (n *note) Failed() bool { return len(n.told) > 0 }

// suites are all of them, each on few keys.
func suites() map[string]func(k testtrees.Kind, t testtrees.Test) {
	l := []string{"a", "b", "ba"}
	return map[string]func(k testtrees.Kind, t testtrees.Test){
		"Fresh":              testtrees.Kind.Fresh,
		"OddKeys":            testtrees.Kind.OddKeys,
		"Row":                func(k testtrees.Kind, t testtrees.Test) { k.Row(t, l) },
		"Orders":             func(k testtrees.Kind, t testtrees.Test) { k.Orders(t, l) },
		"ShortRows":          func(k testtrees.Kind, t testtrees.Test) { k.ShortRows(t, 2, l, 1) },
		"LongRow":            func(k testtrees.Kind, t testtrees.Test) { k.LongRow(t, 1) },
		"Several":            testtrees.Kind.Several,
		"Dropped":            testtrees.Kind.Dropped,
		"DroppedInAFullPool": testtrees.Kind.DroppedInAFullPool,
		"WrittenOver":        testtrees.Kind.WrittenOver,
		"NeedsNone":          func(k testtrees.Kind, t testtrees.Test) { k.NeedsNone(t, l) },
		"Needs":              func(k testtrees.Kind, t testtrees.Test) { k.Needs(t, l) },
	}
}

// run is what a suite tells of trees of that kind.
func run(suite func(k testtrees.Kind, t testtrees.Test), k testtrees.Kind) (n *note) {
	n = &note{}
	defer func() {
		if r := recover(); r != nil && r != n {
			panic(r)
		}
	}()
	suite(k, n)
	return n
}

func TestARightTreeIsRight(t *testing.T) {
	k := testtrees.Kind{
		New:   func(p *arena.Pool) (testtrees.Tree, api.Errno) { return newPlain(p) },
		Slots: func(keys []string) int { return 1 + len(keys) },
	}
	for name, suite := range suites() {
		if n := run(suite, k); n.Failed() {
			t.Errorf("%s: %s", name, n.told[0])
		}
	}
}

// lies are trees that are right but for one thing.
type (
	lateGet    struct{ *plain }
	blindNext  struct{ *plain }
	silentPut  struct{ *plain }
	halfDelete struct{ *plain }
	longLen    struct{ *plain }
	falseCheck struct{ *plain }
	shortAll   struct{ *plain }
	keptSlots  struct{ *plain }
	fullSlots  struct{ *plain }
	noDrop     struct{ *plain }
	manySlots  struct{ *plain }
	sharedAll  struct {
		*plain
		all []api.Pair
	}
	againReader struct{ *plain }
)

func (x lateGet) Get(key string, visit func()) (string, bool, bool) { return "", false, x.gone }
func (x blindNext) Next(key string, after bool, visit func()) (k, v string, found, again bool) {
	return x.plain.Next(key, true, visit)
}
func (x silentPut) Put(key, value string) (string, bool, api.Errno) {
	_, _, e := x.plain.Put(key, value)
	return "", false, e
}
func (x halfDelete) Delete(key string) (string, bool) {
	old, had := x.m[key]
	return old, had
}
func (x longLen) Len() int         { return len(x.m) + 1 }
func (x falseCheck) Check() bool   { return len(x.m) < 2 }
func (x shortAll) All() []api.Pair { return x.plain.All()[:max(len(x.m)-1, 0)] }
func (x keptSlots) Delete(key string) (string, bool) {
	old, had := x.m[key]
	delete(x.m, key)
	return old, had
}
func (x fullSlots) Put(key, value string) (string, bool, api.Errno) {
	if x.Len() > 1 {
		return "", false, api.ErrFull
	}
	return x.plain.Put(key, value)
}
func (x noDrop) Drop()         {}
func (x manySlots) Slots() int { return x.plain.Slots() + 1 }
func (x *sharedAll) All() []api.Pair {
	if len(x.all) != len(x.m) {
		x.all = x.plain.All()
	}
	return x.all
}
func (x againReader) Get(key string, visit func()) (string, bool, bool) {
	v, found, _ := x.plain.Get(key, visit)
	return v, found, found || x.gone
}

func TestALieIsFound(t *testing.T) {
	for name, lie := range map[string]func(x *plain) testtrees.Tree{
		"Get finds nothing":           func(x *plain) testtrees.Tree { return lateGet{x} },
		"Next leaves its key out":     func(x *plain) testtrees.Tree { return blindNext{x} },
		"Put does not tell what was":  func(x *plain) testtrees.Tree { return silentPut{x} },
		"Delete does nothing":         func(x *plain) testtrees.Tree { return halfDelete{x} },
		"Len is one more":             func(x *plain) testtrees.Tree { return longLen{x} },
		"Check is false":              func(x *plain) testtrees.Tree { return falseCheck{x} },
		"All has one too few":         func(x *plain) testtrees.Tree { return shortAll{x} },
		"Delete keeps slots":          func(x *plain) testtrees.Tree { return keptSlots{x} },
		"Put is full too soon":        func(x *plain) testtrees.Tree { return fullSlots{x} },
		"Drop does nothing":           func(x *plain) testtrees.Tree { return noDrop{x} },
		"Slots are one more":          func(x *plain) testtrees.Tree { return manySlots{x} },
		"All is kept":                 func(x *plain) testtrees.Tree { return &sharedAll{plain: x} },
		"a reader has to begin again": func(x *plain) testtrees.Tree { return againReader{x} },
	} {
		k := testtrees.Kind{
			New: func(p *arena.Pool) (testtrees.Tree, api.Errno) {
				x, e := newPlain(p)
				return lie(x), e
			},
			Slots: func(keys []string) int { return 1 + len(keys) },
		}
		found := 0
		for _, suite := range suites() {
			if run(suite, k).Failed() {
				found++
			}
		}
		if found == 0 {
			t.Errorf("%s: no suite has found that", name)
		}
	}
}
