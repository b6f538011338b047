package epoch_test

import (
	"errors"
	"math"
	"runtime"
	"slices"
	"testing"
	"weak"

	"marshalling/epoch"
)

// notes are what was run, letter by letter.
type notes struct{ text string }

// put is a function that writes s when it is run.
func (n *notes) put(s string) func() { return func() { n.text += s } }

func (n *notes) want(t *testing.T, want string) {
	t.Helper()
	if n.text != want {
		t.Errorf("%q were run, want %q", n.text, want)
	}
}

func wantPin(t *testing.T, e *epoch.Epoch, task int, want bool) {
	t.Helper()
	if got := e.Pin(task); got != want {
		t.Errorf("Pin(%d) = %t, want %t", task, got, want)
	}
}

func wantUnpin(t *testing.T, e *epoch.Epoch, task int, want bool) {
	t.Helper()
	if got := e.Unpin(task); got != want {
		t.Errorf("Unpin(%d) = %t, want %t", task, got, want)
	}
}

func wantPinned(t *testing.T, e *epoch.Epoch, want ...int) {
	t.Helper()
	if got := e.Pinned(); !slices.Equal(got, want) {
		t.Errorf("Pinned = %v, want %v", got, want)
	}
}

func wantRetire(t *testing.T, e *epoch.Epoch, f func(), want bool) {
	t.Helper()
	if got := e.Retire(f); got != want {
		t.Errorf("Retire = %t, want %t", got, want)
	}
}

func wantCollect(t *testing.T, e *epoch.Epoch, want int) {
	t.Helper()
	if got := e.Collect(); got != want {
		t.Errorf("Collect = %d, want %d", got, want)
	}
}

func wantWaiting(t *testing.T, e *epoch.Epoch, want int) {
	t.Helper()
	if got := e.Waiting(); got != want {
		t.Errorf("Waiting = %d, want %d", got, want)
	}
}

func TestTheDocumentsExample(t *testing.T) { // P4.1, P4.2, P4.3
	e, n := epoch.New(), &notes{}
	wantPin(t, e, 1, true)
	wantRetire(t, e, n.put("a"), true)
	wantPin(t, e, 2, true)
	wantRetire(t, e, n.put("b"), true)
	wantCollect(t, e, 0)
	n.want(t, "")
	wantUnpin(t, e, 1, true)
	wantPin(t, e, 1, true)
	wantCollect(t, e, 1)
	n.want(t, "a")
	wantWaiting(t, e, 1)

	wantUnpin(t, e, 2, true)
	wantCollect(t, e, 1)
	n.want(t, "ab")
	wantRetire(t, e, n.put("c"), true)
	wantCollect(t, e, 0)
	wantUnpin(t, e, 1, true)
	wantCollect(t, e, 1)
	n.want(t, "abc")
	wantUnpin(t, e, 1, false)
	wantPinned(t, e)
}

func TestANewOneHasNothing(t *testing.T) { // P4.1, P4.2, P4.3
	e := epoch.New()
	if e == nil {
		t.Fatal("New = nil")
	}
	wantPinned(t, e)
	wantWaiting(t, e, 0)
	wantCollect(t, e, 0)
	wantUnpin(t, e, 0, false)
	wantUnpin(t, e, 1, false)
	wantPinned(t, e)
}

func TestPinAndUnpin(t *testing.T) { // P4.1
	e := epoch.New()
	wantPin(t, e, 3, true)
	wantPin(t, e, 3, false)
	wantPin(t, e, 3, false)
	wantPinned(t, e, 3)
	wantPin(t, e, 1, true)
	wantUnpin(t, e, 2, false)
	wantPinned(t, e, 1, 3)
	wantUnpin(t, e, 3, true) // once, however often it was pinned
	wantUnpin(t, e, 3, false)
	wantPinned(t, e, 1)
	wantPin(t, e, 3, true)
	wantPin(t, e, 1, false)
	wantPinned(t, e, 1, 3)
	wantUnpin(t, e, 1, true)
	wantUnpin(t, e, 3, true)
	wantUnpin(t, e, 1, false)
	wantPinned(t, e)
	wantWaiting(t, e, 0)
}

func TestTasksAreAnyNumbers(t *testing.T) { // P4.1, R1
	e, n := epoch.New(), &notes{}
	all := []int{math.MinInt, math.MinInt + 1, -1 << 32, -2, -1, 0, 1, 2, 1 << 32, math.MaxInt - 1, math.MaxInt}
	for _, i := range []int{5, 10, 0, 3, 7, 1, 9, 4, 6, 2, 8} {
		wantPin(t, e, all[i], true)
	}
	wantPinned(t, e, all...)
	wantRetire(t, e, n.put("a"), true)
	for i, task := range all {
		wantPin(t, e, task, false)
		wantCollect(t, e, 0)
		wantUnpin(t, e, task, true)
		wantUnpin(t, e, task, false)
		wantPinned(t, e, all[i+1:]...)
	}
	wantCollect(t, e, 1)
	n.want(t, "a")
}

func TestEachTaskAloneIsWaitedFor(t *testing.T) { // P4.3, P4.5
	for _, task := range []int{math.MinInt, -1, 0, 1, 64, math.MaxInt} {
		e, n := epoch.New(), &notes{}
		wantPin(t, e, task, true)
		wantRetire(t, e, n.put("a"), true)
		wantUnpin(t, e, task^1, false)
		wantCollect(t, e, 0)
		wantUnpin(t, e, task, true)
		wantCollect(t, e, 1)
		n.want(t, "a")
	}
}

func TestPinnedIsNewMemory(t *testing.T) { // P4.1, R4
	e := epoch.New()
	wantPin(t, e, 1, true)
	wantPin(t, e, 2, true)
	one, two := e.Pinned(), e.Pinned()
	one[0], one[1] = 7, 8
	_ = append(one[:0], 9)
	if !slices.Equal(two, []int{1, 2}) {
		t.Errorf("two answers share memory: %v", two)
	}
	wantPinned(t, e, 1, 2)
	wantUnpin(t, e, 7, false)
	wantUnpin(t, e, 1, true)
	if !slices.Equal(two, []int{1, 2}) {
		t.Errorf("an answer was changed: %v", two)
	}
}

func TestRetireOfNil(t *testing.T) { // P4.2
	e, n := epoch.New(), &notes{}
	wantRetire(t, e, nil, false)
	wantWaiting(t, e, 0)
	wantCollect(t, e, 0)
	wantPin(t, e, 1, true)
	wantRetire(t, e, nil, false)
	wantWaiting(t, e, 0)
	wantRetire(t, e, n.put("a"), true)
	wantRetire(t, e, nil, false)
	wantWaiting(t, e, 1)
	wantCollect(t, e, 0)
	wantUnpin(t, e, 1, true)
	wantCollect(t, e, 1)
	n.want(t, "a")
}

func TestWaitingCountsWhatWasNotRun(t *testing.T) { // P4.2
	e, n := epoch.New(), &notes{}
	for i := range 5 {
		wantRetire(t, e, n.put("a"), true)
		wantWaiting(t, e, i+1)
	}
	wantPin(t, e, 1, true)
	wantRetire(t, e, n.put("b"), true)
	wantWaiting(t, e, 6)
	wantCollect(t, e, 5)
	wantWaiting(t, e, 1)
	wantUnpin(t, e, 1, true)
	wantWaiting(t, e, 1) // what is ripe waits till it is run
	wantRetire(t, e, n.put("c"), true)
	wantWaiting(t, e, 2)
	wantCollect(t, e, 2)
	wantWaiting(t, e, 0)
	n.want(t, "aaaaabc")
}

func TestWhoIsRunDoesNotWait(t *testing.T) { // P4.2, P4.3
	e, n := epoch.New(), &notes{}
	wantRetire(t, e, func() { wantWaiting(t, e, 2); n.text += "a" }, true)
	wantRetire(t, e, func() { wantWaiting(t, e, 1); n.text += "b" }, true)
	wantRetire(t, e, func() { wantWaiting(t, e, 0); n.text += "c" }, true)
	wantCollect(t, e, 3)
	n.want(t, "abc")
	wantWaiting(t, e, 0)
}

func TestWhatIsRetiredWhileNothingIsPinned(t *testing.T) { // P4.3
	e, n := epoch.New(), &notes{}
	wantRetire(t, e, n.put("a"), true)
	n.want(t, "") // Retire runs nothing
	wantPin(t, e, 1, true)
	wantCollect(t, e, 1) // the task was pinned behind it
	n.want(t, "a")
	wantUnpin(t, e, 1, true)
	wantRetire(t, e, n.put("b"), true)
	wantRetire(t, e, n.put("c"), true)
	wantCollect(t, e, 2)
	n.want(t, "abc")
}

func TestACollectOfNothing(t *testing.T) { // P4.3
	e, n := epoch.New(), &notes{}
	wantCollect(t, e, 0)
	wantPin(t, e, 1, true)
	wantCollect(t, e, 0)
	wantPinned(t, e, 1)
	wantRetire(t, e, n.put("a"), true)
	wantCollect(t, e, 0)
	wantCollect(t, e, 0)
	wantWaiting(t, e, 1)
	wantUnpin(t, e, 1, true)
	n.want(t, "") // Unpin runs nothing
	wantCollect(t, e, 1)
	wantCollect(t, e, 0)
	n.want(t, "a")
}

func TestATaskThatIsPinnedAgainIsWaitedForNoLonger(t *testing.T) { // P4.3, P4.5
	e, n := epoch.New(), &notes{}
	wantPin(t, e, 1, true)
	wantRetire(t, e, n.put("a"), true)
	wantUnpin(t, e, 1, true)
	wantPin(t, e, 1, true)
	wantRetire(t, e, n.put("b"), true)
	wantUnpin(t, e, 1, true)
	wantPin(t, e, 1, true)
	wantRetire(t, e, n.put("c"), true)
	wantCollect(t, e, 2)
	n.want(t, "ab")
	wantUnpin(t, e, 1, true)
	wantPin(t, e, 1, true)
	wantCollect(t, e, 1)
	n.want(t, "abc")
	wantPinned(t, e, 1)
}

func TestATaskThatIsPinnedTwiceIsWaitedForStill(t *testing.T) { // P4.1, P4.5
	e, n := epoch.New(), &notes{}
	wantPin(t, e, 1, true)
	wantRetire(t, e, n.put("a"), true)
	wantPin(t, e, 1, false) // no new beginning
	wantCollect(t, e, 0)
	wantUnpin(t, e, 2, false)
	wantCollect(t, e, 0)
	wantUnpin(t, e, 1, true)
	wantCollect(t, e, 1)
	n.want(t, "a")
}

func TestEveryOrderOfUnpins(t *testing.T) { // P4.3, P4.5
	// Of each letter the tasks that it waits for: those that were pinned ahead of it.
	for _, x := range []struct {
		order [3]int
		want  [3]string
	}{
		{[3]int{1, 2, 3}, [3]string{"oa", "oab", "oabc"}},
		{[3]int{1, 3, 2}, [3]string{"oa", "oa", "oabc"}},
		{[3]int{2, 1, 3}, [3]string{"o", "oab", "oabc"}},
		{[3]int{2, 3, 1}, [3]string{"o", "o", "oabc"}},
		{[3]int{3, 1, 2}, [3]string{"o", "oa", "oabc"}},
		{[3]int{3, 2, 1}, [3]string{"o", "o", "oabc"}},
	} {
		e, n := epoch.New(), &notes{}
		wantRetire(t, e, n.put("o"), true)
		for i, s := range []string{"a", "b", "c"} {
			wantPin(t, e, i+1, true)
			wantRetire(t, e, n.put(s), true)
		}
		wantCollect(t, e, 1)
		n.want(t, "o")
		for i, task := range x.order {
			wantUnpin(t, e, task, true)
			wantCollect(t, e, len(x.want[i])-len(n.text))
			n.want(t, x.want[i])
			wantWaiting(t, e, 4-len(n.text))
		}
		wantPinned(t, e)
	}
}

func TestOneThatIsUnpinnedAheadOfARetire(t *testing.T) { // P4.3
	e, n := epoch.New(), &notes{}
	wantPin(t, e, 1, true)
	wantPin(t, e, 2, true)
	wantUnpin(t, e, 1, true)
	wantRetire(t, e, n.put("a"), true)
	wantPin(t, e, 1, true)
	wantUnpin(t, e, 2, true)
	wantCollect(t, e, 1)
	n.want(t, "a")
}

func TestManyOfWhichOneTaskHoldsBackTheLater(t *testing.T) { // P4.3, P4.5
	const many = 10000
	e := epoch.New()
	var order []int
	for i := range many {
		if i == many/2 {
			wantPin(t, e, 1, true)
		}
		wantRetire(t, e, func() { order = append(order, i) }, true)
	}
	wantCollect(t, e, many/2)
	wantCollect(t, e, 0)
	wantWaiting(t, e, many/2)
	wantUnpin(t, e, 1, true)
	wantCollect(t, e, many/2)
	for i, got := range order {
		if got != i {
			t.Fatalf("number %d was run in place %d", got, i)
		}
	}
	if len(order) != many {
		t.Errorf("%d were run, want %d", len(order), many)
	}
}

func TestManyThatAreRetiredWhileManyArePinned(t *testing.T) { // P4.3, P4.5
	const many = 50000 // so many that what goes through all of the one for each of the other is seen
	e, n := epoch.New(), 0
	for task := range many {
		e.Pin(task)
		e.Retire(func() { n++ })
	}
	for task := range many {
		wantCollect(t, e, 0)
		e.Unpin(many - 1 - task)
	}
	for task := range many {
		e.Pin(task)
	}
	wantCollect(t, e, many)
	if n != many {
		t.Errorf("%d were run", n)
	}
}

func TestAFunctionThatIsRetiredTwiceIsRunTwice(t *testing.T) { // P4.2, P4.3
	e, n := epoch.New(), &notes{}
	f := n.put("a")
	wantRetire(t, e, f, true)
	wantRetire(t, e, f, true)
	wantWaiting(t, e, 2)
	wantCollect(t, e, 2)
	wantCollect(t, e, 0)
	n.want(t, "aa")
}

// heavy is something that what is retired holds on to.
type heavy struct{ other *heavy }

func retireHeavy(e *epoch.Epoch) weak.Pointer[heavy] {
	h := &heavy{}
	e.Retire(func() { h.other = h })
	return weak.Make(h)
}

func TestWhatWasRunIsForgotten(t *testing.T) { // P4.3
	const many = 100
	e := epoch.New()
	var all []weak.Pointer[heavy]
	for range many {
		all = append(all, retireHeavy(e))
	}
	wantPin(t, e, 1, true)
	left := retireHeavy(e)
	wantCollect(t, e, many)
	runtime.GC()
	kept := 0
	for _, h := range all {
		if h.Value() != nil {
			kept++
		}
	}
	if kept > many/10 {
		t.Errorf("%d of %d are kept", kept, many)
	}
	if left.Value() == nil {
		t.Error("what waits is gone")
	}
	runtime.KeepAlive(e)
}

func TestANilEpoch(t *testing.T) { // P4.4
	var e *epoch.Epoch
	n := &notes{}
	for range 2 {
		for _, task := range []int{math.MinInt, -1, 0, 1, math.MaxInt} {
			wantPin(t, e, task, false)
			wantUnpin(t, e, task, false)
		}
		wantPinned(t, e)
		wantRetire(t, e, nil, false)
		wantRetire(t, e, n.put("a"), false)
		wantWaiting(t, e, 0)
		wantCollect(t, e, 0)
	}
	n.want(t, "")
}

func TestOneThatNewDidNotMake(t *testing.T) { // R1
	var e epoch.Epoch
	n := &notes{}
	wantUnpin(t, &e, 1, false)
	wantPinned(t, &e)
	wantCollect(t, &e, 0)
	wantPin(t, &e, 1, true)
	wantRetire(t, &e, n.put("a"), true)
	wantCollect(t, &e, 0)
	wantUnpin(t, &e, 1, true)
	wantCollect(t, &e, 1)
	n.want(t, "a")
}

func TestEpochsKnowNothingOfOneAnother(t *testing.T) { // R3
	a, b, n := epoch.New(), epoch.New(), &notes{}
	wantPin(t, a, 1, true)
	wantPinned(t, b)
	wantUnpin(t, b, 1, false)
	wantRetire(t, b, n.put("b"), true)
	wantWaiting(t, a, 0)
	wantRetire(t, a, func() {
		n.text += "a"
		wantCollect(t, a, 0)
		wantRetire(t, b, n.put("c"), true)
		wantCollect(t, b, 1) // it is another one's Collect that is under way
	}, true)
	wantCollect(t, b, 1)
	n.want(t, "b")
	wantUnpin(t, a, 1, true)
	wantCollect(t, a, 1)
	n.want(t, "bac")
	wantPinned(t, a)
}

func TestAPanicIsCaught(t *testing.T) { // P4.3, R1
	var nothing map[int]int
	for _, f := range []func(){
		func() { panic("a") },
		func() { panic(nil) },
		func() { panic(errors.New("a")) },
		func() { nothing[1] = 1 },
		func() { defer func() { panic(2) }(); panic(1) },
	} {
		e, n, times := epoch.New(), &notes{}, 0
		wantRetire(t, e, n.put("a"), true)
		wantRetire(t, e, func() { times++; f() }, true)
		wantRetire(t, e, n.put("b"), true)
		wantCollect(t, e, 3)
		n.want(t, "ab")
		wantWaiting(t, e, 0)
		wantCollect(t, e, 0)
		if times != 1 {
			t.Errorf("it was run %d times", times)
		}
		wantRetire(t, e, n.put("c"), true)
		wantCollect(t, e, 1) // no Collect is under way any more
		n.want(t, "abc")
	}
}
