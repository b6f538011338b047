package history_test

import (
	"testing"

	"marshalling/api"
	"marshalling/history"
	"marshalling/testrows"
)

// count is how many events of that kind and Id are in l.
func count(l []api.Event, kind uint8, id int) int {
	n := 0
	for _, e := range l {
		if e.Kind == kind && e.Id == id {
			n++
		}
	}
	return n
}

// right is the document's words on a row, said once more as they stand, of each event by itself.
func right(l []api.Event) bool {
	for k, e := range l {
		if e.Id < 1 || count(l, e.Kind, e.Id) > 1 {
			return false
		}
		switch e.Kind {
		case api.Begun:
			if e.Answer != none {
				return false
			}
		case api.Marked:
			if !sameOp(e.Op, api.Op{}) || count(l[:k], api.Begun, e.Id) != 1 {
				return false
			}
		case api.Ended:
			if !sameOp(e.Op, api.Op{}) || count(l[:k], api.Marked, e.Id) != 1 {
				return false
			}
			for _, m := range l[:k] {
				if m.Kind == api.Marked && m.Id == e.Id && m.Answer != e.Answer {
					return false
				}
			}
		default:
			return false
		}
	}
	return true
}

// wrongAt is the place of the first event behind which the row is not right; -1, if it is right.
func wrongAt(l []api.Event) int {
	for k := range l {
		if !right(l[:k+1]) {
			return k
		}
	}
	return -1
}

// standing is State, said once more: of each kind by itself.
func standing(l []api.Event, id int) (op api.Op, a api.Answer, state int) {
	for k := len(l) - 1; k >= 0; k-- {
		if l[k].Id == id && l[k].Kind == api.Begun {
			op = l[k].Op
		}
		if l[k].Id == id && l[k].Kind == api.Marked {
			a = l[k].Answer
		}
	}
	for state < 3 && count(l, uint8(state+1), id) > 0 {
		state++
	}
	return op, a, state
}

// ahead is Ahead, said once more: of each two events.
func ahead(l []api.Event, a, b int) bool {
	for i, x := range l {
		for _, y := range l[i:] {
			if x.Kind == api.Ended && x.Id == a && y.Kind == api.Begun && y.Id == b {
				return true
			}
		}
	}
	return false
}

// holdRow holds all that is told of a row against the model.
func holdRow(t *testing.T, l []api.Event, ids int) {
	t.Helper()
	wantCheck(t, l, wrongAt(l))
	var marks []int
	for _, e := range l {
		if e.Kind == api.Marked {
			marks = append(marks, e.Id)
		}
	}
	wantMarks(t, l, marks...)
	for a := range ids {
		op, x, state := standing(l, a)
		wantState(t, l, a, op, x, state)
		for b := range ids {
			wantAhead(t, l, a, b, ahead(l, a, b))
		}
	}
}

func TestEveryShortRowIsAsTheModel(t *testing.T) { // P6.2, P6.3
	events := []api.Event{
		begun(1, get), begun(1, put), marked(1, none), marked(1, found), ended(1, none), ended(1, found),
		begun(2, api.Op{Writes: []api.Write{}}), marked(2, none), ended(2, none),
	}
	for n := range 6 {
		testrows.Each(n, events, func(l []api.Event) { holdRow(t, l, 4) })
	}
	more := append(events, begun(0, get), marked(0, none), ended(-1, none), api.Event{Id: 1}, api.Event{Kind: 4, Id: 1}, api.Event{Kind: 1, Id: 1, Answer: found}, api.Event{Kind: 2, Id: 1, Op: put}, api.Event{Kind: 3, Id: 1, Op: put})
	for n := range 5 {
		testrows.Each(n, more, func(l []api.Event) { holdRow(t, l, 4) })
	}
}

// do puts e down, as far as a call can: End takes no answer.
func do(h *history.History, e api.Event) api.Errno {
	switch e.Kind {
	case api.Begun:
		return h.Begin(e.Id, e.Op)
	case api.Marked:
		return h.Mark(e.Id, e.Answer)
	}
	return h.End(e.Id)
}

// holdCalls does the calls that l tells, one behind the other, and holds the history against the model.
func holdCalls(t *testing.T, l []api.Event) []api.Event {
	t.Helper()
	h := history.New()
	var row []api.Event
	for _, e := range l {
		if e.Kind == api.Ended {
			_, e.Answer, _ = standing(row, e.Id)
		}
		want := api.OK
		if !right(append(row, e)) {
			want = api.ErrOrder
		} else {
			row = append(row, e)
		}
		if got := do(h, e); got != want {
			t.Fatalf("%v behind %v: %d, want %d", e, row, got, want)
		}
	}
	wantEvents(t, h, row...)
	wantCheck(t, h.Events(), -1)
	return h.Events()
}

func TestEveryShortRowOfCallsIsAsTheModel(t *testing.T) { // P6.1, P6.4
	events := []api.Event{begun(1, put), marked(1, none), marked(1, found), ended(1, none), begun(2, get), marked(2, found), ended(2, none), begun(0, get)}
	for n := range 7 {
		testrows.Each(n, events, func(l []api.Event) { holdCalls(t, l) })
	}
}

// drawn is a row of n events of some Ids; most of them by their turn, so that the row gets far.
func drawn(draw func(n int) int, n, ids int) []api.Event {
	answers, ops := []api.Answer{none, found, {Code: api.ErrFull}}, []api.Op{get, put, {}}
	turn, last := make([]int, ids), make([]api.Answer, ids)
	var l []api.Event
	for range n {
		id := draw(ids)
		kind := turn[id] + 1
		if draw(12) == 0 {
			kind = 1 + draw(3)
		}
		switch kind {
		case api.Begun:
			l = append(l, begun(id, ops[draw(3)]))
		case api.Marked:
			last[id] = answers[draw(3)]
			l = append(l, marked(id, last[id]))
		case api.Ended:
			l = append(l, ended(id, last[id]))
		default:
			continue
		}
		turn[id] = kind
	}
	return l
}

func TestLongRowsAreAsTheModel(t *testing.T) { // P6.1, P6.2, P6.3
	for seed := range uint64(200) {
		draw := testrows.Draws(seed)
		l := drawn(draw, 60, 2+draw(9))
		holdRow(t, l, 4)
		holdCalls(t, l)
	}
}

func TestTheMarksKeepToAhead(t *testing.T) { // P6.4
	for seed := range uint64(200) {
		draw := testrows.Draws(seed)
		l := holdCalls(t, drawn(draw, 80, 2+draw(15)))
		marks := history.Marks(l)
		for i, a := range marks {
			for _, b := range marks[:i+1] {
				if history.Ahead(l, a, b) {
					t.Errorf("seed %d: %d is ahead of %d, and is not marked ahead of it", seed, a, b)
				}
			}
		}
	}
}

func TestEachBeginningOfARightRowIsRight(t *testing.T) { // P6.4
	for seed := range uint64(50) {
		draw := testrows.Draws(seed)
		l := holdCalls(t, drawn(draw, 60, 2+draw(15)))
		for n := range l {
			wantCheck(t, l[:n], -1)
		}
	}
}
