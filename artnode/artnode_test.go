package artnode_test

import (
	"math"
	"slices"
	"testing"

	"marshalling/artnode"
)

// child is a byte with what it has.
type child[T any] struct {
	b byte
	x T
}

func collect[T any](n *artnode.Node[T]) []child[T] {
	var l []child[T]
	for b, x := range n.All() {
		l = append(l, child[T]{b, x})
	}
	return l
}

// filled is a node in which each of the bytes has the number of its place.
func filled(bytes ...byte) *artnode.Node[int] {
	n := artnode.New[int]()
	for i, b := range bytes {
		n.Set(b, i)
	}
	return n
}

// upTo are the bytes 0 to n - 1.
func upTo(n int) []byte {
	l := make([]byte, n)
	for i := range l {
		l[i] = byte(i)
	}
	return l
}

func wantGet[T comparable](t *testing.T, n *artnode.Node[T], b byte, want T, is bool) {
	t.Helper()
	if x, ok := n.Get(b); x != want || ok != is {
		t.Errorf("Get(%d) = %v, %t, want %v, %t", b, x, ok, want, is)
	}
}

func wantFrom[T comparable](t *testing.T, n *artnode.Node[T], from int, b byte, want T, is bool) {
	t.Helper()
	if at, x, ok := n.From(from); at != b || x != want || ok != is {
		t.Errorf("From(%d) = %d, %v, %t, want %d, %v, %t", from, at, x, ok, b, want, is)
	}
}

func wantSize[T any](t *testing.T, n *artnode.Node[T], length, kind int) {
	t.Helper()
	if n.Len() != length || n.Kind() != kind {
		t.Errorf("Len, Kind = %d, %d, want %d, %d", n.Len(), n.Kind(), length, kind)
	}
}

func wantAll[T comparable](t *testing.T, n *artnode.Node[T], want ...child[T]) {
	t.Helper()
	if got := collect(n); !slices.Equal(got, want) {
		t.Errorf("All tells %v, want %v", got, want)
	}
}

func TestTheDocumentsExamples(t *testing.T) { // P11.1 to P11.3
	n := artnode.New[string]()
	wantSize(t, n, 0, 4)
	if !n.Set(7, "a") || n.Set(7, "b") {
		t.Error("Set(7) is not true just once")
	}
	wantGet(t, n, 7, "b", true)
	wantSize(t, n, 1, 4)
	for b := byte(1); b <= 3; b++ {
		n.Set(b, "x")
	}
	wantSize(t, n, 4, 4)
	n.Set(9, "c")
	wantSize(t, n, 5, 16)
	wantFrom(t, n, 4, 7, "b", true)
	wantFrom(t, n, 10, 0, "", false)
	wantFrom(t, n, -5, 1, "x", true)
	wantAll(t, n, child[string]{1, "x"}, child[string]{2, "x"}, child[string]{3, "x"}, child[string]{7, "b"}, child[string]{9, "c"})
	if !n.Drop(9) || n.Drop(9) {
		t.Error("Drop(9) is not true just once")
	}
	wantSize(t, n, 4, 16)
	n.Drop(1)
	wantSize(t, n, 3, 4)
}

func TestAnEmptyNode(t *testing.T) { // P11.1 to P11.3
	left := filled(0, 255)
	left.Drop(255)
	left.Drop(0)
	for _, n := range []*artnode.Node[int]{artnode.New[int](), {}, left} {
		wantSize(t, n, 0, 4)
		wantAll(t, n)
		for b := range 256 {
			wantGet(t, n, byte(b), 0, false)
			wantFrom(t, n, b, 0, 0, false)
			if n.Drop(byte(b)) {
				t.Errorf("Drop(%d) of an empty node is true", b)
			}
		}
		wantSize(t, n, 0, 4)
		if !n.Set(0, 5) {
			t.Error("Set(0) of an empty node is false")
		}
		wantAll(t, n, child[int]{0, 5})
	}
}

func TestNodesKnowNothingOfOneAnother(t *testing.T) { // P11.1
	n, o := filled(1, 2), filled(2, 3)
	n.Set(3, 9)
	o.Drop(2)
	wantAll(t, n, child[int]{1, 0}, child[int]{2, 1}, child[int]{3, 9})
	wantAll(t, o, child[int]{3, 1})
}

// kindUp is the kind of a node into which so many children were put, and of which none was taken.
func kindUp(count int) int {
	switch {
	case count <= 4:
		return 4
	case count <= 16:
		return 16
	case count <= 48:
		return 48
	}
	return 256
}

// kindDown is the kind of a node that had 256 children, and has so many.
func kindDown(count int) int {
	switch {
	case count <= 3:
		return 4
	case count <= 12:
		return 16
	case count <= 36:
		return 48
	}
	return 256
}

// rows are all bytes, in several orders.
func rows() map[string][]byte {
	rising := upTo(256)
	falling := slices.Clone(rising)
	slices.Reverse(falling)
	mixed := make([]byte, 256)
	outward := make([]byte, 256)
	for i := range 256 {
		mixed[i] = byte(i*77 + 13)
		outward[i] = byte(128 + (i+1)/2*(i%2*2-1))
	}
	return map[string][]byte{"rising": rising, "falling": falling, "mixed": mixed, "outward": outward}
}

func TestARowIsPutAndTakenAway(t *testing.T) { // P11.1, P11.5
	for put, up := range rows() {
		for taken, down := range rows() {
			n := artnode.New[int]()
			for i, b := range up {
				wantGet(t, n, b, 0, false)
				if !n.Set(b, i) {
					t.Errorf("put %s: Set(%d) is false", put, b)
				}
				wantSize(t, n, i+1, kindUp(i+1))
				for at, c := range up[:i+1] {
					wantGet(t, n, c, at, true)
				}
			}
			for i, b := range down {
				wantGet(t, n, b, slices.Index(up, b), true)
				if !n.Drop(b) || n.Drop(b) {
					t.Errorf("put %s, taken %s: Drop(%d) is not true just once", put, taken, b)
				}
				wantGet(t, n, b, 0, false)
				wantSize(t, n, 255-i, kindDown(255-i))
			}
			if t.Failed() {
				t.Fatalf("put %s, taken %s", put, taken)
			}
		}
	}
}

func TestARowIsGoneThrough(t *testing.T) { // P11.2, P11.3, P11.5
	for put, up := range rows() {
		n := artnode.New[int]()
		for i, b := range up {
			n.Set(b, i)
			told := collect(n)
			var walked []child[int]
			for b, x, ok := n.From(math.MinInt); ok; b, x, ok = n.From(int(b) + 1) {
				walked = append(walked, child[int]{b, x})
			}
			var want []child[int]
			for b := range 256 {
				if at := slices.Index(up[:i+1], byte(b)); at >= 0 {
					want = append(want, child[int]{byte(b), at})
				}
			}
			if !slices.Equal(told, want) || !slices.Equal(walked, want) {
				t.Fatalf("put %s, %d children: All tells %v, From %v, want %v", put, i+1, told, walked, want)
			}
		}
	}
}

func TestAByteOfAFullNodeIsPutAnew(t *testing.T) { // P11.1, P11.5
	for _, kind := range []int{4, 16, 48, 256} {
		n := filled(upTo(kind)...)
		wantSize(t, n, kind, kind)
		for b := range kind {
			if n.Set(byte(b), b+1000) {
				t.Errorf("kind %d: Set(%d) anew is true", kind, b)
			}
			wantSize(t, n, kind, kind)
			wantGet(t, n, byte(b), b+1000, true)
		}
		if kind == 256 {
			continue
		}
		if !n.Set(255, 1) {
			t.Errorf("kind %d: Set of one more is false", kind)
		}
		wantSize(t, n, kind+1, kindUp(kind+1))
		if n.Set(255, 2) {
			t.Errorf("kind %d: Set(255) anew is true", kind)
		}
		wantGet(t, n, 255, 2, true)
		wantGet(t, n, byte(kind-1), kind+999, true)
	}
}

func TestTheKindBecomesTheOneAhead(t *testing.T) { // P11.1, P11.5
	for _, tell := range []struct{ kind, ahead, least int }{{16, 4, 3}, {48, 16, 12}, {256, 48, 36}} {
		n := filled(upTo(tell.ahead + 1)...)
		wantSize(t, n, tell.ahead+1, tell.kind)
		for count := tell.ahead; count > tell.least; count-- {
			n.Drop(byte(count))
			wantSize(t, n, count, tell.kind)
		}
		n.Drop(255)
		wantSize(t, n, tell.least+1, tell.kind)
		n.Drop(byte(tell.least))
		wantSize(t, n, tell.least, tell.ahead)
		n.Drop(255)
		wantSize(t, n, tell.least, tell.ahead)
		n.Set(byte(tell.least), 7)
		wantSize(t, n, tell.least+1, tell.ahead)
		for b := range tell.least {
			wantGet(t, n, byte(b), b, true)
		}
		wantGet(t, n, byte(tell.least), 7, true)
	}
}

func TestADropOfNothingChangesNothing(t *testing.T) { // P11.1
	for _, count := range []int{1, 3, 4, 5, 12, 16, 17, 36, 48, 49, 255} {
		n := filled(upTo(count)...)
		before := collect(n)
		for b := count; b < 256; b++ {
			if n.Drop(byte(b)) {
				t.Errorf("of %d children: Drop(%d) is true", count, b)
			}
		}
		wantSize(t, n, count, kindUp(count))
		wantAll(t, n, before...)
	}
}

func TestFromAnyNumber(t *testing.T) { // P11.2
	for _, between := range [][]byte{nil, {101, 102, 103}, upTo(121)[101:], upTo(161)[101:]} { // one row a kind
		n := filled(append([]byte{0, 255}, between...)...)
		next, its, behind := byte(255), 1, 1
		if len(between) > 0 {
			next, its, behind = 101, 2, 101+len(between)
		}
		for _, from := range []int{math.MinInt, math.MinInt + 1, -1 << 32, -257, -256, -255, -1, 0} {
			wantFrom(t, n, from, 0, 0, true)
		}
		wantFrom(t, n, 1, next, its, true)
		wantFrom(t, n, 101, next, its, true)
		wantFrom(t, n, behind, 255, 1, true)
		wantFrom(t, n, 254, 255, 1, true)
		wantFrom(t, n, 255, 255, 1, true)
		for _, from := range []int{256, 257, 512, 1 << 16, 1 << 32, math.MaxInt - 1, math.MaxInt} {
			wantFrom(t, n, from, 0, 0, false)
		}
		n.Drop(0)
		wantFrom(t, n, math.MinInt, next, its, true)
		n.Drop(255)
		wantFrom(t, n, 255, 0, 0, false)
	}
}

func TestAllIsLeftEarlyAndGoneOverAgain(t *testing.T) { // P11.3
	for _, count := range []int{1, 4, 5, 16, 17, 48, 49, 256} {
		n := filled(upTo(count)...)
		all := n.All()
		for stop := range count {
			told := 0
			for b, x := range all {
				if int(b) != told || x != told {
					t.Fatalf("of %d children: All tells %d, %d in the place %d", count, b, x, told)
				}
				if told == stop {
					break
				}
				told++
			}
			if told != stop {
				t.Fatalf("of %d children: All ended at %d", count, told)
			}
		}
		told := 0
		for range all {
			told++
		}
		if told != count {
			t.Errorf("of %d children: All tells %d, gone over again", count, told)
		}
	}
}

func TestAllTellsWhatThereWas(t *testing.T) { // P11.3
	for _, count := range []int{0, 1, 4, 5, 16, 17, 48, 49, 200} {
		n := filled(upTo(count)...)
		all := n.All()
		want := collect(n)
		n.Set(250, 7)
		n.Set(0, 8)
		for b := 1; b < count; b++ {
			n.Drop(byte(b))
		}
		for range 2 {
			var got []child[int]
			for b, x := range all {
				got = append(got, child[int]{b, x})
			}
			if !slices.Equal(got, want) {
				t.Errorf("of %d children, turned behind All: %v, want %v", count, got, want)
			}
		}
		wantAll(t, n, child[int]{0, 8}, child[int]{250, 7})
	}
}

func TestANodeIsTurnedInTheMidstOfAll(t *testing.T) { // P11.3
	for _, count := range []int{1, 4, 5, 16, 17, 48, 49, 200} {
		n := filled(upTo(count)...)
		want := collect(n)
		var got []child[int]
		for b, x := range n.All() {
			got = append(got, child[int]{b, x})
			n.Drop(b)
			n.Drop(b + 1)
			n.Set(b+2, 1000)
			n.Set(255-b, 2000)
		}
		if !slices.Equal(got, want) {
			t.Errorf("of %d children, turned in All: %v, want %v", count, got, want)
		}
	}
}

func TestANilNode(t *testing.T) { // P11.4
	var n *artnode.Node[string]
	for _, b := range []byte{0, 1, 127, 128, 255} {
		if n.Set(b, "a") || n.Drop(b) {
			t.Errorf("Set or Drop(%d) of a nil node is true", b)
		}
		wantGet(t, n, b, "", false)
	}
	for _, from := range []int{math.MinInt, -1, 0, 255, 256, math.MaxInt} {
		wantFrom(t, n, from, 0, "", false)
	}
	wantSize(t, n, 0, 0)
	wantAll(t, n)
}

// things puts x and y, of which one may be the zero thing, for each byte of rows that pass through all kinds.
func things[T comparable](t *testing.T, x, y T) {
	t.Helper()
	var none T
	n := artnode.New[T]()
	for b := range 256 {
		wantGet(t, n, byte(b), none, false)
		if !n.Set(byte(b), x) || n.Set(byte(b), y) || n.Set(byte(b), x) {
			t.Errorf("Set(%d) is not true just once", b)
		}
		wantGet(t, n, byte(b), x, true)
		wantFrom(t, n, b, byte(b), x, true)
		wantFrom(t, n, b+1, 0, none, false)
	}
	for b := range 256 {
		wantFrom(t, n, 0, byte(b), x, true)
		if !n.Drop(byte(b)) || n.Drop(byte(b)) {
			t.Errorf("Drop(%d) is not true just once", b)
		}
		wantGet(t, n, byte(b), none, false)
	}
}

func TestThingsOfSeveralTypes(t *testing.T) { // P11.1, P11.2
	one := 1
	things(t, 0, 1)
	things(t, 1, 0)
	things(t, "", "a")
	things(t, "a", "")
	things(t, nil, &one)
	things(t, &one, nil)
	things(t, struct{}{}, struct{}{})
	things[any](t, nil, 1)
	things[any](t, "a", nil)
	things(t, [2]string{"a"}, [2]string{})
	things(t, artnode.New[int](), nil)
}
