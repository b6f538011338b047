package history_test

import (
	"math"
	"reflect"
	"slices"
	"strings"
	"testing"
	"unsafe"

	"marshalling/api"
	"marshalling/history"
)

var (
	get   = api.Op{Kind: api.Get, Key: "k"}
	put   = api.Op{Kind: api.Put, Key: "k", Value: "1"}
	found = api.Answer{Found: true, Value: "1"}
	none  = api.Answer{}
)

func begun(id int, op api.Op) api.Event { return api.Event{Kind: api.Begun, Id: id, Op: op} }

func marked(id int, a api.Answer) api.Event {
	return api.Event{Kind: api.Marked, Id: id, Answer: a}
}

func ended(id int, a api.Answer) api.Event { return api.Event{Kind: api.Ended, Id: id, Answer: a} }

// plain is an event whose list is nil if it has no elements, as the two are the same.
func plain(e api.Event) api.Event {
	if len(e.Op.Writes) == 0 {
		e.Op.Writes = nil
	}
	return e
}

func sameEvents(l, m []api.Event) bool {
	return slices.EqualFunc(l, m, func(a, b api.Event) bool { return reflect.DeepEqual(plain(a), plain(b)) })
}

func sameOp(a, b api.Op) bool {
	return sameEvents([]api.Event{{Op: a}}, []api.Event{{Op: b}})
}

func wantErrno(t *testing.T, call string, got, want api.Errno) {
	t.Helper()
	if got != want {
		t.Errorf("%s = %d, want %d", call, got, want)
	}
}

func wantEvents(t *testing.T, h *history.History, want ...api.Event) {
	t.Helper()
	if got := h.Events(); !sameEvents(got, want) {
		t.Errorf("Events = %v, want %v", got, want)
	}
}

func wantCheck(t *testing.T, l []api.Event, at int) {
	t.Helper()
	want := api.OK
	if at >= 0 {
		want = api.ErrOrder
	}
	if k, e := history.Check(l); k != at || e != want {
		t.Errorf("Check(%v) = %d, %d, want %d, %d", l, k, e, at, want)
	}
}

func wantMarks(t *testing.T, l []api.Event, want ...int) {
	t.Helper()
	if got := history.Marks(l); !slices.Equal(got, want) {
		t.Errorf("Marks(%v) = %v, want %v", l, got, want)
	}
}

func wantState(t *testing.T, l []api.Event, id int, op api.Op, a api.Answer, state int) {
	t.Helper()
	if o, x, n := history.State(l, id); !sameOp(o, op) || x != a || n != state {
		t.Errorf("State(%v, %d) = %v, %v, %d, want %v, %v, %d", l, id, o, x, n, op, a, state)
	}
}

func wantAhead(t *testing.T, l []api.Event, a, b int, want bool) {
	t.Helper()
	if got := history.Ahead(l, a, b); got != want {
		t.Errorf("Ahead(%v, %d, %d) = %t", l, a, b, got)
	}
}

func TestTheDocumentsExamples(t *testing.T) { // P6.2, P6.3
	l := []api.Event{begun(1, api.Op{}), marked(1, none), begun(2, api.Op{}), ended(1, none), marked(2, none)}
	wantCheck(t, l, -1)
	wantMarks(t, l, 1, 2)
	wantAhead(t, l, 1, 2, false)
	wantCheck(t, []api.Event{begun(1, api.Op{}), ended(1, none)}, 1)
	wantCheck(t, []api.Event{marked(1, none)}, 0)
	wantCheck(t, []api.Event{begun(1, api.Op{}), begun(1, api.Op{})}, 1)
	wantCheck(t, []api.Event{begun(0, api.Op{})}, 0)
}

func TestOperationsOneBetweenTheOther(t *testing.T) { // P6.1, P6.2, P6.3
	h := history.New()
	batch := api.Op{Kind: api.Batch, Writes: []api.Write{{Key: "a", Value: "1"}, {Key: "b", Gone: true}}}
	seven := api.Answer{Found: true, Key: "x", Value: "7"}
	full := api.Answer{Code: api.ErrFull}
	wantErrno(t, "Begin 1", h.Begin(1, put), api.OK)
	wantErrno(t, "Begin 7", h.Begin(7, get), api.OK)
	wantErrno(t, "Mark 7", h.Mark(7, seven), api.OK)
	wantErrno(t, "Begin 3", h.Begin(3, batch), api.OK)
	wantErrno(t, "Mark 1", h.Mark(1, full), api.OK)
	wantErrno(t, "End 1", h.End(1), api.OK)
	wantErrno(t, "Begin 4", h.Begin(4, get), api.OK)
	wantErrno(t, "Mark 3", h.Mark(3, none), api.OK)
	wantErrno(t, "End 7", h.End(7), api.OK)
	wantErrno(t, "Begin 5", h.Begin(5, put), api.OK)
	want := []api.Event{begun(1, put), begun(7, get), marked(7, seven), begun(3, batch), marked(1, full), ended(1, full), begun(4, get), marked(3, none), ended(7, seven), begun(5, put)}
	wantEvents(t, h, want...)

	l := h.Events()
	wantCheck(t, l, -1)
	wantMarks(t, l, 7, 1, 3)
	wantState(t, l, 1, put, full, 3)
	wantState(t, l, 2, api.Op{}, none, 0)
	wantState(t, l, 3, batch, none, 2)
	wantState(t, l, 4, get, none, 1)
	wantState(t, l, 5, put, none, 1)
	wantState(t, l, 7, get, seven, 3)
	ahead := map[[2]int]int{{1, 4}: 1, {1, 5}: 1, {7, 5}: 1}
	for a := range 9 {
		for b := range 9 {
			wantAhead(t, l, a, b, ahead[[2]int{a, b}] == 1)
		}
	}
}

func TestNewHasNoEvents(t *testing.T) { // P6.1
	h := history.New()
	if h == nil {
		t.Fatal("New = nil")
	}
	wantEvents(t, h)
}

func TestANilHistory(t *testing.T) { // P6.1, R1
	var h *history.History
	wantErrno(t, "Begin", h.Begin(1, get), api.ErrNil)
	wantErrno(t, "Begin 0", h.Begin(0, get), api.ErrNil)
	wantErrno(t, "Mark", h.Mark(1, found), api.ErrNil)
	wantErrno(t, "End", h.End(1), api.ErrNil)
	wantEvents(t, h)
}

func TestAHistoryThatNewDidNotMake(t *testing.T) { // R1
	var h history.History
	wantErrno(t, "Mark", h.Mark(1, found), api.ErrOrder)
	wantErrno(t, "End", h.End(1), api.ErrOrder)
	wantErrno(t, "Begin", h.Begin(1, get), api.OK)
	wantEvents(t, &h, begun(1, get))
}

func TestWhatIsNotRightIsNotPutDown(t *testing.T) { // P6.1
	h := history.New()
	var want []api.Event
	for _, x := range []struct {
		name string
		got  api.Errno
		e    []api.Event // what is put down
	}{
		{"End 1 of none", h.End(1), nil},
		{"Mark 1 of none", h.Mark(1, found), nil},
		{"Begin 0", h.Begin(0, get), nil},
		{"Mark 0", h.Mark(0, none), nil},
		{"End 0", h.End(0), nil},
		{"Begin -1", h.Begin(-1, get), nil},
		{"Begin least", h.Begin(math.MinInt, get), nil},
		{"Begin 1", h.Begin(1, get), []api.Event{begun(1, get)}},
		{"Begin 1 again", h.Begin(1, get), nil},
		{"Begin 1 otherwise", h.Begin(1, put), nil},
		{"End 1 ahead of its mark", h.End(1), nil},
		{"End 2", h.End(2), nil},
		{"Mark 1", h.Mark(1, found), []api.Event{marked(1, found)}},
		{"Mark 1 again", h.Mark(1, found), nil},
		{"Mark 1 otherwise", h.Mark(1, none), nil},
		{"Begin 1 behind its mark", h.Begin(1, get), nil},
		{"End 1", h.End(1), []api.Event{ended(1, found)}},
		{"End 1 again", h.End(1), nil},
		{"Mark 1 behind its end", h.Mark(1, found), nil},
		{"Begin 1 behind its end", h.Begin(1, get), nil},
		{"Begin greatest", h.Begin(math.MaxInt, api.Op{}), []api.Event{begun(math.MaxInt, api.Op{})}},
		{"Mark greatest", h.Mark(math.MaxInt, none), []api.Event{marked(math.MaxInt, none)}},
		{"End greatest", h.End(math.MaxInt), []api.Event{ended(math.MaxInt, none)}},
	} {
		code := api.OK
		if x.e == nil {
			code = api.ErrOrder
		}
		wantErrno(t, x.name, x.got, code)
		want = append(want, x.e...)
	}
	wantEvents(t, h, want...)
}

func TestAnEndHasTheMarksAnswer(t *testing.T) { // P6.1
	for _, a := range []api.Answer{{}, {Code: api.ErrBusy}, {Found: true}, {Key: "k"}, {Value: "v"}, {Code: -1, Found: true, Key: strings.Repeat("k", 99), Value: "\x00"}} {
		h := history.New()
		h.Begin(2, put)
		h.Begin(1, put)
		h.Mark(1, found)
		h.Mark(2, a)
		wantErrno(t, "End", h.End(2), api.OK)
		wantEvents(t, h, begun(2, put), begun(1, put), marked(1, found), marked(2, a), ended(2, a))
	}
}

func TestAnyOpMayBegin(t *testing.T) { // P6.1
	ops := []api.Op{{}, {Kind: 255}, {Key: strings.Repeat("x", 1000)}, {Value: "v"}, {Old: "o"}, {Had: true}, {After: true}, {Writes: make([]api.Write, 100)}, {Writes: []api.Write{}}, {Kind: api.Swap, Key: "a", Value: "b", Old: "c", Had: true, After: true, Writes: []api.Write{{Key: "d", Value: "e", Gone: true}}}}
	h := history.New()
	var want []api.Event
	for k, op := range ops {
		wantErrno(t, "Begin", h.Begin(k+1, op), api.OK)
		want = append(want, begun(k+1, op))
	}
	wantEvents(t, h, want...)
	wantCheck(t, h.Events(), -1)
	for k, op := range ops {
		wantState(t, want, k+1, op, none, 1)
	}
}

func TestAHistoryThatIsFull(t *testing.T) { // P6.1
	h := history.New()
	const pairs = 32767
	for id := 1; id <= pairs; id++ {
		if h.Begin(id, get) != api.OK || h.Mark(id, found) != api.OK {
			t.Fatalf("no room for %d", id)
		}
	}
	wantErrno(t, "End as number 65535", h.End(1), api.OK)
	wantErrno(t, "a wrong one", h.End(1), api.ErrOrder)
	wantErrno(t, "Begin as number 65536", h.Begin(pairs+1, put), api.OK)
	wantErrno(t, "Begin", h.Begin(pairs+2, put), api.ErrEvents)
	wantErrno(t, "Mark", h.Mark(pairs+1, none), api.ErrEvents)
	wantErrno(t, "End", h.End(2), api.ErrEvents)
	wantErrno(t, "a wrong Begin", h.Begin(0, put), api.ErrEvents)
	wantErrno(t, "a wrong Mark", h.Mark(1, none), api.ErrEvents)
	wantErrno(t, "a wrong End", h.End(1), api.ErrEvents)
	l := h.Events()
	if len(l) != 65536 {
		t.Fatalf("%d events", len(l))
	}
	if at, e := history.Check(l); at != -1 || e != api.OK {
		t.Errorf("Check = %d, %d", at, e)
	}
	if !sameEvents(l[65533:], []api.Event{marked(pairs, found), ended(1, found), begun(pairs+1, put)}) {
		t.Errorf("the last events are %v", l[65533:])
	}
}

func TestHistoriesKnowNothingOfOneAnother(t *testing.T) { // R3
	a, b := history.New(), history.New()
	a.Begin(1, put)
	wantErrno(t, "Mark", b.Mark(1, found), api.ErrOrder)
	wantErrno(t, "Begin", b.Begin(1, get), api.OK)
	wantErrno(t, "Begin 2", b.Begin(2, get), api.OK)
	wantErrno(t, "Mark", a.Mark(1, found), api.OK)
	wantErrno(t, "End", b.End(1), api.ErrOrder)
	wantEvents(t, a, begun(1, put), marked(1, found))
	wantEvents(t, b, begun(1, get), begun(2, get))
}

func TestWhatBeginWasHandedIsNotKept(t *testing.T) { // R4
	h := history.New()
	room := []api.Write{{Key: "a", Value: "1"}, {Key: "b", Gone: true}, {Key: "spare"}}
	op := api.Op{Kind: api.Batch, Writes: room[:2]}
	h.Begin(1, op)
	h.Mark(1, found)
	h.End(1)
	if !slices.Equal(room, []api.Write{{Key: "a", Value: "1"}, {Key: "b", Gone: true}, {Key: "spare"}}) {
		t.Errorf("the Writes are now %v", room)
	}
	room[0], room[1] = api.Write{Key: "z"}, api.Write{}
	op.Writes = append(op.Writes, api.Write{Key: "more"})
	wantEvents(t, h, begun(1, api.Op{Kind: api.Batch, Writes: []api.Write{{Key: "a", Value: "1"}, {Key: "b", Gone: true}}}), marked(1, found), ended(1, found))
}

func TestWhatEventsTellsIsNewMemory(t *testing.T) { // P6.4, R4
	h := history.New()
	op := api.Op{Kind: api.Batch, Writes: []api.Write{{Key: "a", Value: "1"}}}
	h.Begin(1, op)
	h.Begin(2, op)
	want := []api.Event{begun(1, op), begun(2, op), marked(1, found)}
	h.Mark(1, found)
	l, m := h.Events(), h.Events()
	l[0].Op.Writes[0] = api.Write{Key: "z", Gone: true}
	wantEvents(t, h, want...)
	if !sameEvents(m, want) || !sameEvents(l[1:], want[1:]) {
		t.Errorf("Events share their Writes: %v, %v", l, m)
	}
	l[0], l[1], l[2] = api.Event{}, api.Event{Kind: 9}, ended(1, none)
	wantEvents(t, h, want...)
	l = append(l[:0], marked(2, none), marked(2, none), marked(2, none), marked(2, none))
	wantEvents(t, h, want...)
	wantErrno(t, "End", h.End(1), api.OK)
	wantEvents(t, h, append(want, ended(1, found))...)
	if !sameEvents(m, want) {
		t.Errorf("what Events told is changed by a later call: %v", m)
	}
}

func TestTheWritesThatStateTellsAreNewMemory(t *testing.T) { // R4
	l := []api.Event{begun(1, api.Op{Writes: []api.Write{{Key: "a"}, {Key: "b"}}[:1]})}
	op, _, _ := history.State(l, 1)
	op.Writes[0].Key = "z"
	op.Writes = append(op.Writes, api.Write{Key: "more"})
	if w := l[0].Op.Writes; w[0].Key != "a" || w[:2][1].Key != "b" {
		t.Errorf("the row's Writes are now %v", w[:2])
	}
}

// texts are where the texts of what is told lie.
func texts(l ...string) []*byte {
	var at []*byte
	for _, s := range l {
		at = append(at, unsafe.StringData(s))
	}
	return at
}

func TestTextsAreNewMemory(t *testing.T) { // R4
	op := api.Op{Key: "key", Value: "value", Old: "old", Writes: []api.Write{{Key: "k", Value: "v"}}}
	a := api.Answer{Key: "akey", Value: "avalue"}
	h := history.New()
	h.Begin(1, op)
	h.Mark(1, a)
	h.End(1)
	var all []*byte
	all = append(all, texts(op.Key, op.Value, op.Old, op.Writes[0].Key, op.Writes[0].Value, a.Key, a.Value)...)
	for range 2 {
		l := h.Events()
		o := l[0].Op
		all = append(all, texts(o.Key, o.Value, o.Old, o.Writes[0].Key, o.Writes[0].Value, l[1].Answer.Key, l[1].Answer.Value, l[2].Answer.Key, l[2].Answer.Value)...)
		o, x, _ := history.State(l, 1)
		all = append(all, texts(o.Key, o.Value, o.Old, o.Writes[0].Key, o.Writes[0].Value, x.Key, x.Value)...)
	}
	for k, at := range all {
		if slices.Contains(all[:k], at) {
			t.Errorf("text %d of %d is where another one is", k, len(all))
		}
	}
}
