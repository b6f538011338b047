package art_test

import (
	"reflect"
	"testing"

	"marshalling/api"
	"marshalling/artnode"
	"marshalling/testtrees"
)

// inside are the nodes of a tree, by their texts. No call makes one wrong, so that these tests reach into its fields, if it has those.
type inside struct {
	things  reflect.Value // their arena
	handles map[string]api.Handle
	nodes   map[string]reflect.Value
}

func insideOf(t *testing.T, x testtrees.Tree) inside {
	t.Helper()
	at := reflect.ValueOf(x)
	for _, name := range []string{"nodes", "things"} {
		if at = at.Elem().FieldByName(name); at.Kind() != reflect.Pointer {
			t.Skip("a tree has no such field: " + name)
		}
	}
	in := inside{reflect.NewAt(at.Type().Elem(), at.UnsafePointer()), map[string]api.Handle{}, map[string]reflect.Value{}}
	for _, h := range in.things.MethodByName("Handles").Call(nil)[0].Interface().([]api.Handle) {
		n := in.things.MethodByName("Get").Call([]reflect.Value{reflect.ValueOf(h)})[0].Elem()
		for name, kind := range map[string]reflect.Kind{"text": reflect.String, "value": reflect.String, "isKey": reflect.Bool, "kids": reflect.Pointer} {
			if n.FieldByName(name).Kind() != kind {
				t.Skip("a node has no such field: " + name)
			}
		}
		text := n.FieldByName("text").String()
		in.handles[text], in.nodes[text] = h, n
	}
	return in
}

// field is a node's field as one that can be set.
func (in inside) field(text, name string) reflect.Value {
	f := in.nodes[text].FieldByName(name)
	return reflect.NewAt(f.Type(), f.Addr().UnsafePointer()).Elem()
}

func (in inside) kids(text string) *artnode.Node[api.Handle] {
	return in.field(text, "kids").Interface().(*artnode.Node[api.Handle])
}

func (in inside) release(text string) {
	in.things.MethodByName("Release").Call([]reflect.Value{reflect.ValueOf(in.handles[text])})
}

// harms are what makes a tree with the keys abc, abd, abde, and z wrong, each in one way.
func harms() map[string]func(in inside) {
	return map[string]func(in inside){
		"a root with a text, and nothing below": func(in inside) {
			for text := range in.nodes {
				if text != "" {
					in.kids("").Drop(text[0])
					in.release(text)
				}
			}
			in.field("", "text").SetString("a")
		},
		"a root with a value":                func(in inside) { in.field("", "value").SetString("v") },
		"a root that is dead":                func(in inside) { in.release("") },
		"a root that is its own kid":         func(in inside) { in.kids("").Set('q', in.handles[""]) },
		"a text that begins otherwise":       func(in inside) { in.field("abd", "text").SetString("xbd") },
		"a text that ends where it began":    func(in inside) { in.field("abde", "text").SetString("abd") },
		"a value of what is no key":          func(in inside) { in.field("ab", "value").SetString("v") },
		"an end that is no key":              func(in inside) { in.field("z", "isKey").SetBool(false); in.field("z", "value").SetString("") },
		"one kid alone below what is no key": func(in inside) { in.field("abd", "isKey").SetBool(false); in.field("abd", "value").SetString("") },
		"a kid that is dead":                 func(in inside) { in.release("abc") },
		"a kid that is left out":             func(in inside) { in.kids("").Drop('z') },
		"a kid of another byte": func(in inside) {
			in.kids("ab").Drop('c')
			in.kids("ab").Set('x', in.handles["abc"])
		},
		"a kid that is there twice": func(in inside) { in.kids("").Set('y', in.handles["z"]) },
		"kids that are exchanged": func(in inside) {
			in.kids("ab").Set('c', in.handles["abd"])
			in.kids("ab").Set('d', in.handles["abc"])
		},
	}
}

func TestCheckTellsWhatIsWrong(t *testing.T) { // P12.4
	for name, harm := range harms() {
		h := kind().Hold(t, 10, "abc", "abd", "abde", "z")
		in := insideOf(t, h.X)
		if len(in.nodes) != 6 || !h.X.Check() {
			t.Fatalf("%d nodes, Check %v", len(in.nodes), h.X.Check())
		}
		harm(in)
		if h.X.Check() {
			t.Errorf("a tree with %s is right", name)
		}
	}
}
