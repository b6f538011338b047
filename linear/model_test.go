package linear_test

import (
	"slices"
	"testing"

	"marshalling/api"
	"marshalling/history"
	"marshalling/linear"
	"marshalling/omap"
	"marshalling/testrows"
)

// wantSomeOf is wantSome of pairs that are too many to be told.
func wantSomeOf(t *testing.T, start []api.Pair, l []api.Event, want bool) {
	t.Helper()
	if got := linear.Some(start, l); got != want {
		t.Errorf("Some of %d pairs and %+v = %t", len(start), l, got)
	}
}

// nothing tells whether that answer is of what does nothing.
func nothing(a api.Answer) bool {
	return (a.Code == api.ErrFull || a.Code == api.ErrBusy) && !a.Found && a.Key == "" && a.Value == ""
}

// modelOfWitness is Check, After and Witness, said once more: each mark by itself, of the whole row.
func modelOfWitness(start []api.Pair, l []api.Event) (at int, e api.Errno, pairs []api.Pair, ops []api.Op) {
	if at, e := history.Check(l); e != api.OK {
		return at, e, nil, nil
	}
	at = -1
	m := omap.New(start)
	for _, id := range history.Marks(l) {
		op, a, _ := history.State(l, id)
		ops = append(ops, op)
		if nothing(a) {
			continue
		}
		if m.Do(op) != a && at < 0 {
			at = slices.IndexFunc(l, func(e api.Event) bool { return e.Kind == api.Marked && e.Id == id })
			e = api.ErrWrong
		}
	}
	return at, e, m.All(), ops
}

// orders goes over all rows in which some of the ids stand, each once, till do tells true: whether it did.
func orders(row, left []int, do func(row []int) bool) bool {
	if do(row) {
		return true
	}
	for k, id := range left {
		if orders(append(slices.Clone(row), id), slices.Delete(slices.Clone(left), k, k+1), do) {
			return true
		}
	}
	return false
}

// fits tells whether that row of ids has all that is ended, keeps to what is ahead, and answers as l.
func fits(start []api.Pair, l []api.Event, ids, row []int) bool {
	for _, id := range ids {
		if _, _, state := history.State(l, id); state == 3 && !slices.Contains(row, id) {
			return false
		}
	}
	for k, b := range row {
		for _, a := range row[k:] {
			if history.Ahead(l, a, b) {
				return false
			}
		}
	}
	m := omap.New(start)
	for _, id := range row {
		op, a, state := history.State(l, id)
		if state == 3 && nothing(a) {
			continue
		}
		if got := m.Do(op); state == 3 && got != a {
			return false
		}
	}
	return true
}

// modelOfSome is Some, said once more: of each row by itself.
func modelOfSome(start []api.Pair, l []api.Event) bool {
	if _, e := history.Check(l); e != api.OK {
		return false
	}
	var ids []int
	for _, e := range l {
		if e.Kind == api.Begun {
			ids = append(ids, e.Id)
		}
	}
	return len(ids) <= 7 && orders(nil, ids, func(row []int) bool { return fits(start, l, ids, row) })
}

// holdRow holds all that is told of a row against the models, and what follows.
func holdRow(t *testing.T, start []api.Pair, l []api.Event) {
	t.Helper()
	at, e, pairs, ops := modelOfWitness(start, l)
	if k, got := linear.Check(start, l); k != at || got != e {
		t.Fatalf("Check(%q, %+v) = %d, %d, want %d, %d", start, l, k, got, at, e)
	}
	wantAfter(t, start, l, pairs...)
	wantWitness(t, l, ops...)
	some := modelOfSome(start, l)
	wantSome(t, start, l, some)
	if e == api.OK && !some { // P8.3
		t.Errorf("what Check finds right is not right for the model: %+v", l)
	}
	if t.Failed() {
		t.FailNow()
	}
}

// grown goes over all rows that begin with l, which is right, and have more of the events, as long as they are right.
func grown(l, events []api.Event, do func(l []api.Event)) {
	do(l)
	for _, e := range events {
		m := append(l, e) // what stood there has been gone over
		if _, e := history.Check(m); e == api.OK {
			grown(m, events, do)
		}
	}
}

// eventsOf are the events that operations may have, with these answers.
func eventsOf(ops []api.Op, answers []api.Answer) []api.Event {
	var l []api.Event
	for k, op := range ops {
		l = append(l, begun(k+1, op))
		for _, a := range answers {
			l = append(l, marked(k+1, a), ended(k+1, a))
		}
	}
	return l
}

func TestEveryRowOfTwoIsAsTheModel(t *testing.T) { // P8.1, P8.2, P8.3
	answers := []api.Answer{none, found("1"), refusal(api.ErrFull), told("b", "2"), {Value: "1"}, found(""), told("a", "1"), refusal(api.ErrKind), {Code: api.ErrBusy, Found: true}}
	ops := []api.Op{get("a"), put("a", "1"), del("a"), swap("a", "1"), swapOld("a", "2", "1"), next(""), after("a"), batch(write("a", "1"), gone("b")), {}, put("b", "2")}
	for _, start := range [][]api.Pair{nil, {has("b", "2"), has("a", "1")}} {
		for k, one := range ops {
			for _, two := range ops[k:] {
				grown(nil, eventsOf([]api.Op{one, two}, answers[:3+k%2]), func(l []api.Event) { holdRow(t, start, l) })
			}
			grown(nil, eventsOf([]api.Op{one}, answers), func(l []api.Event) { holdRow(t, start, l) })
		}
	}
}

func TestEveryRowOfThreeIsAsTheModel(t *testing.T) { // P8.1, P8.2, P8.3
	for _, ops := range [][]api.Op{
		{put("a", "1"), get("a"), del("a")},
		{swap("a", "1"), swapOld("a", "", "1"), get("a")},
	} {
		grown(nil, eventsOf(ops, []api.Answer{none, found("1")}), func(l []api.Event) { holdRow(t, nil, l) })
	}
}

// drawOp is an operation on few keys, so that many of them meet.
func drawOp(draw func(n int) int) api.Op {
	key := func() string { return []string{"", "a", "a\x00", "b", "\x80"}[draw(5)] }
	value := func() string { return []string{"", "1", "2"}[draw(3)] }
	op := api.Op{Kind: uint8(1 + draw(6)), Key: key(), Value: value(), Old: value(), Had: draw(2) == 0, After: draw(2) == 0}
	for range draw(4) {
		op.Writes = append(op.Writes, api.Write{Key: key(), Value: value(), Gone: draw(2) == 0})
	}
	switch draw(30) {
	case 0:
		op.Kind = uint8(draw(256))
	case 1:
		op.Key = string(make([]byte, 25))
	case 2:
		op.Value = string(make([]byte, 33))
	case 3:
		op.Writes = make([]api.Write, 9)
	}
	return op
}

func drawStart(draw func(n int) int) []api.Pair {
	var l []api.Pair
	for range draw(6) {
		op := drawOp(draw)
		l = append(l, has(op.Key, op.Value))
	}
	return l
}

// played is a row of n operations on a map that does each at its mark, of which as many overlap as it falls; a few had no room. What is left over of the steps stays pending.
func played(draw func(n int) int, start []api.Pair, n, steps int) []api.Event {
	m := omap.New(start)
	var l []api.Event
	ops, answers, turns := make([]api.Op, n+1), make([]api.Answer, n+1), make([]int, n+1)
	for range steps {
		id := 1 + draw(n)
		turns[id]++
		switch turns[id] {
		case api.Begun:
			ops[id] = drawOp(draw)
			l = append(l, begun(id, ops[id]))
		case api.Marked:
			if draw(10) == 0 {
				answers[id] = refusal([]api.Errno{api.ErrFull, api.ErrBusy}[draw(2)])
			} else {
				answers[id] = m.Do(ops[id])
			}
			l = append(l, marked(id, answers[id]))
		case api.Ended:
			l = append(l, ended(id, answers[id]))
		}
	}
	return l
}

// spoilt is l with another answer of one operation, if it has a mark.
func spoilt(draw func(n int) int, l []api.Event) []api.Event {
	marks := history.Marks(l)
	if len(marks) == 0 {
		return l
	}
	m := slices.Clone(l)
	id := marks[draw(len(marks))]
	answers := []api.Answer{none, found(""), found("1"), {Value: "1"}, told("a", "1"), refusal(api.ErrFull), refusal(api.ErrLarge), {Code: api.ErrFull, Value: "1"}}
	a := answers[draw(len(answers))]
	for k := range m {
		if m[k].Id == id && m[k].Kind != api.Begun {
			m[k].Answer = a
		}
	}
	return m
}

func TestPlayedRowsAreAsTheModel(t *testing.T) { // P8.1, P8.2, P8.3
	for seed := range uint64(4000) {
		draw := testrows.Draws(seed)
		start, n := drawStart(draw), 1+draw(5)
		l := played(draw, start, n, 4*n)
		holdRow(t, start, l)
		wantCheck(t, start, l, -1)
		holdRow(t, start, spoilt(draw, l))
		holdRow(t, start, spoilt(draw, spoilt(draw, l)))
	}
}

func TestWhatCheckFindsRightSomeFindsRightToo(t *testing.T) { // P8.3
	for seed := range uint64(2000) {
		draw := testrows.Draws(seed)
		start, n := drawStart(draw), 1+draw(7)
		l := played(draw, start, n, 5*n)
		wantCheck(t, start, l, -1)
		wantSome(t, start, l, true)
	}
}

func TestEachBeginningOfARightRowIsRight(t *testing.T) { // P8.3
	for seed := range uint64(200) {
		draw := testrows.Draws(seed)
		start := drawStart(draw)
		l := played(draw, start, 30, 150)
		for n := range len(l) + 1 {
			wantCheck(t, start, l[:n], -1)
		}
		for n := range len(l) + 1 {
			wantSome(t, start, l[:n], len(slices.DeleteFunc(slices.Clone(l[:n]), func(e api.Event) bool { return e.Kind != api.Begun })) <= 7)
		}
	}
}

// touches are the keys that op tells of or changes; of a Next none can be told.
func touches(op api.Op) (keys []string, all bool) {
	switch {
	case op.Kind == api.Next:
		return nil, true
	case op.Kind == api.Batch:
		for _, w := range op.Writes {
			keys = append(keys, w.Key)
		}
		return keys, false
	}
	return []string{op.Key}, false
}

func apart(a, b api.Op) bool {
	one, allOne := touches(a)
	two, allTwo := touches(b)
	return !allOne && !allTwo && !slices.ContainsFunc(one, func(key string) bool { return slices.Contains(two, key) })
}

func TestMarksOfOtherKeysMayChangePlaces(t *testing.T) { // P8.3
	changed := 0
	for seed := range uint64(500) {
		draw := testrows.Draws(seed)
		start := drawStart(draw)
		l := played(draw, start, 20, 80)
		want := linear.After(start, l)
		for k := 1; k < len(l); k++ {
			if l[k-1].Kind != api.Marked || l[k].Kind != api.Marked {
				continue
			}
			a, _, _ := history.State(l, l[k-1].Id)
			b, _, _ := history.State(l, l[k].Id)
			if apart(a, b) {
				changed++
				l[k-1], l[k] = l[k], l[k-1]
				wantCheck(t, start, l, -1)
				wantAfter(t, start, l, want...)
			}
		}
	}
	if changed < 500 {
		t.Errorf("only %d marks have changed places", changed)
	}
}
