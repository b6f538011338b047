package history_test

import (
	"math"
	"reflect"
	"testing"

	"marshalling/api"
	"marshalling/history"
)

// opFields are Ops in each of which one field is not zero; in the last one the Writes have an element.
func opFields() []api.Op {
	return []api.Op{{Kind: 1}, {Key: "k"}, {Value: "v"}, {Old: "o"}, {Had: true}, {After: true}, {Writes: make([]api.Write, 1)}}
}

// answerFields are Answers in each of which one field is not zero.
func answerFields() []api.Answer {
	return []api.Answer{{Code: 1}, {Found: true}, {Key: "k"}, {Value: "v"}}
}

func TestTheFieldsAreAll(t *testing.T) { // the lists above have each field of what api gives
	if n := reflect.TypeFor[api.Op]().NumField(); n != len(opFields()) {
		t.Errorf("an Op has %d fields", n)
	}
	if n := reflect.TypeFor[api.Answer]().NumField(); n != len(answerFields()) {
		t.Errorf("an Answer has %d fields", n)
	}
}

func TestCheckOfRightRows(t *testing.T) { // P6.2
	empty := api.Op{Writes: []api.Write{}}
	for _, l := range [][]api.Event{
		nil, {},
		{begun(1, put)},
		{begun(1, api.Op{})},
		{begun(1, put), marked(1, found)},
		{begun(1, put), marked(1, found), ended(1, found)},
		{begun(9, put), begun(1, get), marked(1, none), marked(9, found), ended(9, found), ended(1, none)},
		{begun(math.MaxInt, put), marked(math.MaxInt, found), ended(math.MaxInt, found)},
		{begun(1, empty), {Kind: api.Marked, Id: 1, Op: empty, Answer: found}, {Kind: api.Ended, Id: 1, Op: empty, Answer: found}},
	} {
		wantCheck(t, l, -1)
	}
}

func TestCheckOfWrongRows(t *testing.T) { // P6.2
	whole := []api.Event{begun(1, put), marked(1, found), ended(1, found)}
	behind := func(l []api.Event, e ...api.Event) []api.Event {
		return append(append([]api.Event(nil), l...), e...)
	}
	for _, x := range []struct {
		l  []api.Event
		at int
	}{
		{[]api.Event{begun(0, put)}, 0},
		{[]api.Event{begun(-1, put)}, 0},
		{[]api.Event{begun(math.MinInt, put)}, 0},
		{[]api.Event{begun(0, put), marked(0, none), ended(0, none)}, 0},
		{[]api.Event{marked(1, none)}, 0},
		{[]api.Event{ended(1, none)}, 0},
		{[]api.Event{{}}, 0},
		{[]api.Event{{Id: 1}}, 0},
		{[]api.Event{marked(1, none), begun(1, put)}, 0},
		{behind(whole[:1], begun(1, put)), 1},
		{behind(whole[:1], ended(1, none)), 1},
		{behind(whole[:1], marked(2, found)), 1},
		{behind(whole[:1], begun(2, get), ended(2, none), begun(2, get)), 2},
		{behind(whole[:2], begun(1, put)), 2},
		{behind(whole[:2], marked(1, found)), 2},
		{behind(whole[:2], ended(2, found)), 2},
		{behind(whole[:2], ended(1, none)), 2},
		{behind(whole, begun(1, put)), 3},
		{behind(whole, marked(1, found)), 3},
		{behind(whole, ended(1, found)), 3},
		{behind(whole, begun(2, get), begun(0, get), begun(2, get)), 4},
		{behind([]api.Event{begun(2, get)}, behind(whole, ended(2, none))...), 4},
	} {
		wantCheck(t, x.l, x.at)
	}
}

func TestAKindThatIsNone(t *testing.T) { // P6.2
	rows := [][]api.Event{{}, {begun(1, put)}, {begun(1, put), marked(1, none)}, {begun(1, put), marked(1, none), ended(1, none)}}
	for n, l := range rows {
		for kind := range 256 {
			at := n
			if kind == n+1 && n < 3 { // the one that may come next
				at = -1
			}
			wantCheck(t, append(l[:n:n], api.Event{Kind: uint8(kind), Id: 1}), at)
			if kind != api.Begun {
				wantCheck(t, append(l[:n:n], api.Event{Kind: uint8(kind), Id: 2}), n)
			}
		}
	}
}

func TestFieldsThatShouldBeZero(t *testing.T) { // P6.2
	l := []api.Event{begun(1, put), marked(1, found), ended(1, found)}
	with := func(k int, change func(e *api.Event)) []api.Event {
		m := append([]api.Event(nil), l...)
		change(&m[k])
		return m
	}
	for _, a := range answerFields() {
		wantCheck(t, with(0, func(e *api.Event) { e.Answer = a }), 0)
	}
	for _, op := range opFields() {
		wantCheck(t, with(0, func(e *api.Event) { e.Op = op }), -1)
		wantCheck(t, with(1, func(e *api.Event) { e.Op = op }), 1)
		wantCheck(t, with(2, func(e *api.Event) { e.Op = op }), 2)
	}
}

func TestAnEndWithAnotherAnswerThanTheMarks(t *testing.T) { // P6.2
	answers := append(answerFields(), none, found, api.Answer{Code: 2}, api.Answer{Key: "l"}, api.Answer{Value: "w"}, api.Answer{Found: true, Value: ""})
	for _, mark := range answers {
		for _, end := range answers {
			at := -1
			if mark != end {
				at = 2
			}
			wantCheck(t, []api.Event{begun(1, put), marked(1, mark), ended(1, end)}, at)
		}
	}
}

func TestARowLongerThanAHistory(t *testing.T) { // P6.2
	var l []api.Event
	for id := range 30000 {
		l = append(l, begun(id+1, get), marked(id+1, none), ended(id+1, none))
	}
	if at, e := history.Check(l); at != -1 || e != api.OK {
		t.Errorf("Check of %d events = %d, %d", len(l), at, e)
	}
	if at, e := history.Check(append(l, begun(1, get))); at != 90000 || e != api.ErrOrder {
		t.Errorf("Check = %d, %d", at, e)
	}
}

func TestMarksOfAnyRow(t *testing.T) { // P6.3
	wantMarks(t, nil)
	wantMarks(t, []api.Event{begun(1, get), ended(2, none), {}, {Kind: 5, Id: 3}})
	wantMarks(t, []api.Event{marked(3, none), begun(3, get), marked(3, found), marked(0, none), marked(-4, none), ended(1, none), {Kind: api.Marked, Id: 8, Op: put}}, 3, 3, 0, -4, 8)
}

func TestStateOfAnyRow(t *testing.T) { // P6.3
	two := api.Answer{Value: "2"}
	for _, x := range []struct {
		l     []api.Event
		op    api.Op
		a     api.Answer
		state int
	}{
		{nil, api.Op{}, none, 0},
		{[]api.Event{begun(2, put), marked(2, found), ended(2, found)}, api.Op{}, none, 0},
		{[]api.Event{begun(1, put)}, put, none, 1},
		{[]api.Event{begun(1, put), begun(1, get)}, put, none, 1},
		{[]api.Event{begun(1, put), marked(1, found)}, put, found, 2},
		{[]api.Event{begun(1, put), marked(1, found), marked(1, two)}, put, found, 2},
		{[]api.Event{begun(1, put), marked(1, found), ended(1, two)}, put, found, 3},
		{[]api.Event{ended(1, two), marked(1, found), marked(1, two), begun(1, put), begun(1, get)}, put, found, 3},
		{[]api.Event{marked(1, found), begun(1, put)}, put, found, 2},
		{[]api.Event{begun(1, put), ended(1, found)}, put, none, 1},
		{[]api.Event{marked(1, found)}, api.Op{}, found, 0},
		{[]api.Event{marked(1, found), ended(1, found)}, api.Op{}, found, 0},
		{[]api.Event{ended(1, found)}, api.Op{}, none, 0},
		{[]api.Event{{Kind: api.Begun, Id: 1, Op: put, Answer: found}}, put, none, 1},
		{[]api.Event{{Kind: api.Begun, Id: 1}, {Kind: api.Marked, Id: 1, Op: put, Answer: two}}, api.Op{}, two, 2},
		{[]api.Event{{Id: 1, Op: get, Answer: two}, begun(1, put), {Kind: 4, Id: 1, Op: get, Answer: two}, {Kind: 255, Id: 1}}, put, none, 1},
	} {
		wantState(t, x.l, 1, x.op, x.a, x.state)
	}
	for _, id := range []int{0, -1, math.MinInt, math.MaxInt} {
		l := []api.Event{begun(1, get), begun(id, put), marked(1, two), marked(id, found), ended(id, none)}
		wantState(t, l, id, put, found, 3)
		wantState(t, l[:1], id, api.Op{}, none, 0)
	}
}

func TestAheadOfAnyRow(t *testing.T) { // P6.3
	for _, x := range []struct {
		l    []api.Event
		a, b int
		want bool
	}{
		{nil, 1, 2, false},
		{[]api.Event{ended(1, none), begun(2, get)}, 1, 2, true},
		{[]api.Event{ended(1, none), begun(2, get)}, 2, 1, false},
		{[]api.Event{begun(2, get), ended(1, none)}, 1, 2, false},
		{[]api.Event{marked(1, none), begun(2, get)}, 1, 2, false},
		{[]api.Event{ended(1, none), marked(2, none)}, 1, 2, false},
		{[]api.Event{ended(1, none), ended(2, none)}, 1, 2, false},
		{[]api.Event{begun(2, get), ended(1, none), begun(2, get)}, 1, 2, true},
		{[]api.Event{ended(1, none), begun(3, get), begun(2, get), ended(1, none)}, 1, 2, true},
		{[]api.Event{begun(1, get), marked(1, none), ended(1, none)}, 1, 1, false},
		{[]api.Event{ended(1, none), begun(1, get)}, 1, 1, true},
		{[]api.Event{ended(0, none), begun(-1, get)}, 0, -1, true},
		{[]api.Event{{Kind: 3, Id: 1, Op: put}, {Kind: 1, Id: 2, Answer: found}}, 1, 2, true},
		{[]api.Event{{Kind: 4, Id: 1}, {Kind: 0, Id: 2}}, 1, 2, false},
	} {
		wantAhead(t, x.l, x.a, x.b, x.want)
	}
}

func TestRowsAreNotChanged(t *testing.T) { // R4
	room := []api.Event{begun(1, api.Op{Writes: []api.Write{{Key: "a"}}}), marked(1, found), ended(1, found), begun(2, get), {Kind: 7, Id: -7}}
	want := []api.Event{begun(1, api.Op{Writes: []api.Write{{Key: "a"}}}), marked(1, found), ended(1, found), begun(2, get), {Kind: 7, Id: -7}}
	l := room[:3]
	history.Check(l)
	history.Marks(l)
	history.State(l, 1)
	history.Ahead(l, 1, 2)
	if !sameEvents(room, want) {
		t.Errorf("the row is now %v", room)
	}
}
