package epoch_test

import (
	"slices"
	"strconv"
	"strings"
	"testing"

	"marshalling/epoch"
	"marshalling/testrows"
)

// calls are an Epoch's, which the model has, too.
type calls interface {
	Pin(task int) bool
	Unpin(task int) bool
	Pinned() []int
	Retire(f func()) bool
	Collect() int
	Waiting() int
}

// waiter is a function that is retired, with the tasks that it waits for, one by one.
type waiter struct {
	f     func()
	tasks []int
}

// model is the document's words, said once more as they stand: each that is retired keeps its own list.
type model struct {
	pinned     []int
	waiters    []*waiter
	collecting bool
}

func without(tasks []int, task int) []int {
	return slices.DeleteFunc(slices.Clone(tasks), func(x int) bool { return x == task })
}

func (m *model) Pin(task int) bool {
	if slices.Contains(m.pinned, task) {
		return false
	}
	m.pinned = append(m.pinned, task)
	return true
}

func (m *model) Unpin(task int) bool {
	if !slices.Contains(m.pinned, task) {
		return false
	}
	m.pinned = without(m.pinned, task)
	for _, w := range m.waiters {
		w.tasks = without(w.tasks, task)
	}
	return true
}

func (m *model) Pinned() []int { return slices.Sorted(slices.Values(m.pinned)) }

func (m *model) Retire(f func()) bool {
	if f == nil {
		return false
	}
	m.waiters = append(m.waiters, &waiter{f, slices.Clone(m.pinned)})
	return true
}

func (m *model) Collect() int {
	if m.collecting {
		return 0
	}
	m.collecting = true
	n := 0
	for _, w := range slices.Clone(m.waiters) {
		if len(w.tasks) > 0 {
			continue
		}
		at := slices.Index(m.waiters, w)
		m.waiters = slices.Delete(slices.Clone(m.waiters), at, at+1)
		func() {
			defer func() { recover() }()
			w.f()
		}()
		n++
	}
	m.collecting = false
	return n
}

func (m *model) Waiting() int { return len(m.waiters) }

// act is a call; of a Retire, what the function does when it is run.
type act struct {
	kind   int
	task   int
	inside []act
}

const (
	pin = iota
	unpin
	retire
	retireNil
	collect
	fall // a panic; nothing, where no function is run
	kinds
)

// doer does acts to an epoch or to the model, and tells all that comes of them.
type doer struct {
	e    calls
	told strings.Builder
	next int // the name of the function that is retired next
	deep int // how many functions are being run
}

func (d *doer) tell(words ...any) {
	for _, w := range words {
		switch x := w.(type) {
		case string:
			d.told.WriteString(x)
		case int:
			d.told.WriteString(strconv.Itoa(x))
		case bool:
			d.told.WriteString(strconv.FormatBool(x))
		case []int:
			for _, n := range x {
				d.told.WriteString(" " + strconv.Itoa(n))
			}
		}
	}
}

func (d *doer) do(a act) {
	switch a.kind {
	case pin:
		d.tell("pin ", a.task, " ", d.e.Pin(a.task))
	case unpin:
		d.tell("unpin ", a.task, " ", d.e.Unpin(a.task))
	case retire:
		name := d.next
		d.next++
		d.tell("retire ", name, " ", d.e.Retire(d.function(name, a.inside)))
	case retireNil:
		d.tell("retire nil ", d.e.Retire(nil))
	case collect:
		d.tell("collect ", d.e.Collect())
	case fall:
		if d.deep > 0 {
			d.tell("fall; ")
			panic("fall")
		}
	}
	d.tell(", waiting ", d.e.Waiting(), ", pinned", d.e.Pinned(), "; ")
}

func (d *doer) function(name int, inside []act) func() {
	return func() {
		d.deep++
		defer func() { d.deep-- }()
		d.tell("run ", name, ", waiting ", d.e.Waiting(), "; ")
		for _, a := range inside {
			d.do(a)
		}
		d.tell("ran ", name, "; ")
	}
}

// holdAgainst does the same to an epoch and to the model, and holds what they tell against each other.
func holdAgainst(t *testing.T, row []act) {
	t.Helper()
	got, want := &doer{e: epoch.New()}, &doer{e: &model{}}
	for i, a := range row {
		got.do(a)
		want.do(a)
		if got.told.String() != want.told.String() {
			t.Fatalf("behind call %d of %v:\n got %s\nwant %s", i, row, got.told.String(), want.told.String())
		}
		got.told.Reset()
		want.told.Reset()
	}
}

func TestEveryRowOfCallsIsAsTheModel(t *testing.T) { // P4.1, P4.2, P4.3, P4.5
	acts := []act{{kind: pin, task: 1}, {kind: unpin, task: 1}, {kind: pin, task: -2}, {kind: unpin, task: -2}, {kind: retire}, {kind: collect}}
	testrows.Each(7, acts, func(row []act) { holdAgainst(t, row) })
}

func TestEveryRowWithinAFunctionIsAsTheModel(t *testing.T) { // P4.3, P4.5
	acts := []act{{kind: pin, task: 1}, {kind: unpin, task: 1}, {kind: retire}, {kind: collect}, {kind: fall}}
	testrows.Each(4, acts, func(inside []act) {
		holdAgainst(t, []act{
			{kind: retire}, {kind: retire, inside: inside}, {kind: pin, task: 1}, {kind: retire}, {kind: retire, inside: inside},
			{kind: pin, task: 2}, {kind: retire}, {kind: unpin, task: 2}, {kind: pin, task: 2}, {kind: collect}, {kind: collect},
			{kind: unpin, task: 1}, {kind: collect}, {kind: unpin, task: 2}, {kind: collect}, {kind: collect},
		})
	})
}

// drawn is an act that draw chooses, its functions at most depth deep.
func drawn(draw func(n int) int, tasks, depth int) act {
	a := act{kind: draw(kinds), task: draw(tasks) - tasks/2}
	if a.kind == retire && depth > 0 {
		for range draw(4) {
			a.inside = append(a.inside, drawn(draw, tasks, depth-1))
		}
	}
	return a
}

func TestLongRowsAreAsTheModel(t *testing.T) { // P4.1, P4.2, P4.3, P4.5
	for seed := range uint64(60) {
		draw := testrows.Draws(seed)
		tasks := 1 + draw(12)
		var row []act
		for range 1500 {
			row = append(row, drawn(draw, tasks, 3))
		}
		holdAgainst(t, row)
	}
}

func TestWhenAllAreUnpinnedOneCollectRunsAll(t *testing.T) { // P4.5
	for seed := range uint64(300) {
		draw := testrows.Draws(seed)
		e, runs, names := epoch.New(), map[int]int{}, 0
		for range 200 {
			switch task := draw(6); draw(4) {
			case 0:
				e.Pin(task)
			case 1:
				e.Unpin(task)
			case 2:
				name := names
				names++
				e.Retire(func() { runs[name]++ })
			case 3:
				if draw(4) == 0 {
					e.Collect()
				}
			}
		}
		for _, task := range e.Pinned() {
			wantUnpin(t, e, task, true)
		}
		wantCollect(t, e, e.Waiting())
		wantWaiting(t, e, 0)
		for name := range names {
			if runs[name] != 1 {
				t.Fatalf("seed %d: number %d was run %d times", seed, name, runs[name])
			}
		}
	}
}

// looker sees to what it was told of: whether what is run is looked at by one that was pinned, and not unpinned since.
type looker struct {
	since map[int]int // by task: the moment of its Pin
	now   int
}

func TestNothingIsRunWhileSomebodyLooks(t *testing.T) { // P4.5
	for seed := range uint64(300) {
		draw := testrows.Draws(seed)
		e, l, runs := epoch.New(), &looker{since: map[int]int{}}, map[int]int{}
		step := func(again func()) {
			l.now++
			switch task := draw(6); draw(5) {
			case 0, 1:
				if e.Pin(task) {
					l.since[task] = l.now
				}
			case 2:
				if e.Unpin(task) {
					delete(l.since, task)
				}
			case 3:
				born := l.now
				e.Retire(func() {
					for task, from := range l.since {
						if from < born {
							t.Errorf("seed %d: what was retired at %d was run while %d was pinned since %d", seed, born, task, from)
						}
					}
					runs[born]++
					if runs[born] > 1 {
						t.Errorf("seed %d: what was retired at %d was run again", seed, born)
					}
					again()
				})
			case 4:
				e.Collect()
			}
		}
		again := func() {
			for range draw(3) {
				step(func() {})
			}
		}
		for range 300 {
			step(again)
		}
	}
}
