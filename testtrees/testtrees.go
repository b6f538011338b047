// Package testtrees is what the tests of the trees have alike: what they want of one that has what a map has, and the keys that they put; the program does not call it.
package testtrees

import (
	"maps"
	"slices"
	"strings"

	"marshalling/api"
)

// Tree is what every tree does.
type Tree interface {
	Get(key string, visit func()) (value string, found, again bool)
	Next(key string, after bool, visit func()) (k, v string, found, again bool)
	Put(key, value string) (old string, had bool, e api.Errno)
	Delete(key string) (old string, had bool)
	Len() int
	Slots() int
	All() []api.Pair
	Check() bool
	Drop()
}

// Test is told what is not as it is wanted; a *testing.T is one.
type Test interface {
	Helper()
	Errorf(format string, args ...any)
	Fatalf(format string, args ...any)
	Failed() bool
}

// WantPut wants that a Put tells that key had old, or nothing, or that it is not done.
func WantPut(t Test, x Tree, key, value, old string, had bool, e api.Errno) {
	t.Helper()
	if was, there, errno := x.Put(key, value); was != old || there != had || errno != e {
		t.Errorf("Put(%q, %q) = %q, %v, %d, want %q, %v, %d", key, value, was, there, errno, old, had, e)
	}
}

// WantDelete wants that a Delete tells that key had old, or nothing.
func WantDelete(t Test, x Tree, key, old string, had bool) {
	t.Helper()
	if was, there := x.Delete(key); was != old || there != had {
		t.Errorf("Delete(%q) = %q, %v, want %q, %v", key, was, there, old, had)
	}
}

// WantGet wants that a Get, alone, tells so.
func WantGet(t Test, x Tree, key, value string, found bool) {
	t.Helper()
	if v, is, again := x.Get(key, nil); v != value || is != found || again {
		t.Errorf("Get(%q) = %q, %v, %v, want %q, %v, false", key, v, is, again, value, found)
	}
}

// WantNext wants that a Next, alone, tells so.
func WantNext(t Test, x Tree, key string, after bool, k, v string, found bool) {
	t.Helper()
	if key1, value, is, again := x.Next(key, after, nil); key1 != k || value != v || is != found || again {
		t.Errorf("Next(%q, %v) = %q, %q, %v, %v, want %q, %q, %v, false", key, after, key1, value, is, again, k, v, found)
	}
}

// WantEach wants that Get and Next tell of key what the map does.
func WantEach(t Test, x Tree, m map[string]string, key string) {
	t.Helper()
	value, is := m[key]
	WantGet(t, x, key, value, is)
	for _, after := range []bool{false, true} {
		k, v, found := Least(m, key, after)
		WantNext(t, x, key, after, k, v, found)
	}
}

// WantAll wants that the tree is right, and has these keys, rising, with their values, whoever tells so.
func WantAll(t Test, x Tree, want map[string]string) {
	t.Helper()
	l := Sorted(want)
	if got := x.All(); !slices.Equal(got, l) {
		t.Errorf("All = %+q, want %+q", got, l)
	}
	if x.Len() != len(l) || !x.Check() {
		t.Errorf("Len, Check = %d, %v, want %d, true", x.Len(), x.Check(), len(l))
	}
}

// WantRow goes on from key to key, and wants that it meets all of them.
func WantRow(t Test, x Tree, m map[string]string) {
	t.Helper()
	var l []api.Pair
	k, v, found, again := x.Next("", false, nil)
	for found && !again && len(l) <= len(m) {
		l = append(l, api.Pair{Key: k, Value: v})
		k, v, found, again = x.Next(k, true, nil)
	}
	if again || !slices.Equal(l, Sorted(m)) {
		t.Errorf("gone through by Next: %+q, %v, want %+q", l, again, Sorted(m))
	}
}

// WantAgain wants that readers tell nothing but that the tree is not there.
func WantAgain(t Test, x Tree) {
	t.Helper()
	for _, key := range []string{"", "a", "b", "\xff"} {
		for _, visit := range []func(){nil, func() {}} {
			if v, found, again := x.Get(key, visit); v != "" || found || !again {
				t.Errorf("Get(%q) = %q, %v, %v, want again alone", key, v, found, again)
			}
			for _, after := range []bool{false, true} {
				if k, v, found, again := x.Next(key, after, visit); k != "" || v != "" || found || !again {
					t.Errorf("Next(%q, %v) = %q, %q, %v, %v, want again alone", key, after, k, v, found, again)
				}
			}
		}
	}
}

// Sorted is what the map has, its keys rising.
func Sorted(m map[string]string) []api.Pair {
	var l []api.Pair
	for _, key := range slices.Sorted(maps.Keys(m)) {
		l = append(l, api.Pair{Key: key, Value: m[key]})
	}
	return l
}

// Least is the least key that is not below key (after: that is above it), and its value.
func Least(m map[string]string, key string, after bool) (k, v string, found bool) {
	for at, value := range m {
		if c := strings.Compare(at, key); (c > 0 || c == 0 && !after) && (!found || at < k) {
			k, v, found = at, value, true
		}
	}
	return k, v, found
}
