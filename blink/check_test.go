package blink_test

import (
	"reflect"
	"slices"
	"testing"

	"marshalling/api"
	"marshalling/arena"
	"marshalling/blink"
	"marshalling/blnode"
	"marshalling/testtrees"
)

// inside are the nodes of a tree. No call makes one wrong, so that these tests reach into its field, if it has that one.
type inside struct {
	*arena.Arena[blnode.Node]
}

func nodesOf(t *testing.T, x *blink.Tree) inside {
	t.Helper()
	at := reflect.ValueOf(x)
	for _, name := range []string{"nodes", "things"} {
		if at = at.Elem().FieldByName(name); at.Kind() != reflect.Pointer {
			t.Skip("a tree has no such field: " + name)
		}
	}
	if at.Type() != reflect.TypeFor[*arena.Arena[blnode.Node]]() {
		t.Skip("a tree's things are no arena of nodes")
	}
	return inside{(*arena.Arena[blnode.Node])(at.UnsafePointer())}
}

func (in inside) at(h api.Handle) *blnode.Node {
	n, _ := in.Get(h)
	return n
}

// root is the handle of the one node that is nobody's kid.
func (in inside) root() api.Handle {
	kids := map[api.Handle]int{}
	for _, h := range in.Handles() {
		for _, kid := range in.at(h).Kids {
			kids[kid]++
		}
	}
	l := slices.DeleteFunc(in.Handles(), func(h api.Handle) bool { return kids[h] > 0 })
	return l[0]
}

// parts are the root of a tree of three levels, its first kid, and that one's first two kids, which are leaves.
func (in inside) parts() (root, mid, leaf, right *blnode.Node) {
	root = in.at(in.root())
	mid = in.at(root.Kids[0])
	return root, mid, in.at(mid.Kids[0]), in.at(mid.Kids[1])
}

// end is the last leaf.
func (in inside) end() *blnode.Node {
	n := in.at(in.root())
	for !n.Leaf {
		n = in.at(n.Kids[len(n.Kids)-1])
	}
	return n
}

// harms are what makes a tree wrong, each in one way.
func harms() map[string]func(in inside) {
	return map[string]func(in inside){
		"keys that do not rise": func(in inside) {
			_, _, leaf, _ := in.parts()
			slices.Reverse(leaf.Keys)
		},
		"a value too few": func(in inside) {
			_, _, leaf, _ := in.parts()
			leaf.Values = leaf.Values[1:]
		},
		"a kid too few": func(in inside) {
			root, _, _, _ := in.parts()
			root.Kids = root.Kids[1:]
		},
		"five keys in a leaf": func(in inside) {
			_, _, leaf, _ := in.parts()
			for _, key := range []string{"k000a", "k000b", "k000c"} {
				*leaf, _, _ = leaf.Put(key, "v")
			}
		},
		"a key below its leaf": func(in inside) {
			_, _, _, right := in.parts()
			right.Keys[0] = "k001a"
		},
		"a key above its leaf": func(in inside) {
			_, _, leaf, _ := in.parts()
			leaf.Keys[len(leaf.Keys)-1] = "k019"
		},
		"a leaf that ends too early": func(in inside) {
			_, _, leaf, _ := in.parts()
			leaf.High = "k001a" // above its keys, but ahead of its neighbour's
		},
		"a leaf that ends too late": func(in inside) {
			_, _, leaf, _ := in.parts()
			leaf.High += "\x00"
		},
		"a leaf without an end, ahead of others": func(in inside) {
			_, _, leaf, _ := in.parts()
			leaf.High, leaf.Bounded = "", false
		},
		"a last leaf with an end": func(in inside) {
			in.end().High, in.end().Bounded = "z", true
		},
		"a root with an end": func(in inside) {
			root, _, _, _ := in.parts()
			root.High, root.Bounded = "z", true
		},
		"a root with a neighbour": func(in inside) {
			root, mid, _, _ := in.parts()
			root.Next = mid.Kids[0]
		},
		"a leaf without its neighbour": func(in inside) {
			_, _, leaf, _ := in.parts()
			leaf.Next = api.Handle{}
		},
		"a leaf whose neighbour is left out": func(in inside) {
			_, _, leaf, right := in.parts()
			leaf.Next = right.Next
		},
		"a leaf that is its own neighbour": func(in inside) {
			_, mid, leaf, _ := in.parts()
			leaf.Next = mid.Kids[0]
		},
		"a neighbour of another generation": func(in inside) {
			_, _, leaf, _ := in.parts()
			leaf.Next.Gen++
		},
		"a last leaf with a neighbour": func(in inside) {
			in.end().Next = in.root()
		},
		"a node above without its neighbour": func(in inside) {
			_, mid, _, _ := in.parts()
			mid.Next = api.Handle{}
		},
		"kids that stand the other way round": func(in inside) {
			_, mid, _, _ := in.parts()
			slices.Reverse(mid.Kids)
		},
		"a kid that is there twice": func(in inside) {
			_, mid, _, _ := in.parts()
			mid.Kids[1] = mid.Kids[0]
		},
		"a first leaf that is dead": func(in inside) {
			_, mid, _, _ := in.parts()
			in.Release(mid.Kids[0])
		},
		"another leaf that is dead": func(in inside) {
			_, mid, _, _ := in.parts()
			in.Release(mid.Kids[1])
		},
		"a root that is dead": func(in inside) { in.Release(in.root()) },
		"another separator": func(in inside) {
			root, _, _, _ := in.parts()
			root.Keys[0] += "\x00"
		},
		"a node that is not reached": func(in inside) { in.Alloc(blnode.Node{Leaf: true}) },
		"a leaf in the row above the leaves": func(in inside) {
			_, mid, _, _ := in.parts()
			*mid = blnode.Node{Leaf: true, High: mid.High, Bounded: true, Next: mid.Next}
		},
		"leaves of two heights": func(in inside) { // but for that all is as it must be
			root, _, _, _ := in.parts()
			for _, h := range in.Handles() {
				if in.at(h) != root {
					in.Release(h)
				}
			}
			low, _ := in.Alloc(blnode.Node{Leaf: true, Keys: []string{"m"}, Values: []string{"v"}})
			mid, _ := in.Alloc(blnode.Node{Kids: []api.Handle{low}})
			leaf, _ := in.Alloc(blnode.Node{Leaf: true, High: "m", Bounded: true, Next: mid})
			*root = blnode.Node{Keys: []string{"m"}, Kids: []api.Handle{leaf, mid}}
		},
		"a root that is its own kid": func(in inside) {
			h := in.root()
			*in.at(h) = blnode.Node{Kids: []api.Handle{h}}
		},
	}
}

func TestCheckTellsWhatIsWrong(t *testing.T) { // P10.3
	for name, harm := range harms() {
		x, _ := treeOf(t, testtrees.Orders(20)["rising"]...)
		in := nodesOf(t, x)
		if n, _, leaf, right := in.parts(); n.Leaf || !leaf.Leaf || !right.Leaf || len(leaf.Keys) != 2 || !x.Check() {
			t.Fatalf("not a tree of three levels: %v, %v, %v, Check %v", n, leaf, right, x.Check())
		}
		harm(in)
		if x.Check() {
			t.Errorf("a tree with %s is right", name)
		}
	}
}

func TestCheckOfATreeWithoutRoom(t *testing.T) { // P10.3: no key is below the empty one, so that such an end leaves none
	x, _ := treeOf(t)
	in := nodesOf(t, x)
	in.at(in.root()).Bounded = true
	if x.Check() {
		t.Error("a tree that has no room for any key is right")
	}
}
