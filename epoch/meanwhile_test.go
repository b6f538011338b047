package epoch_test

import (
	"testing"

	"marshalling/epoch"
)

func TestWhatIsRetiredMeanwhileIsLeft(t *testing.T) { // P4.3
	e, n := epoch.New(), &notes{}
	wantRetire(t, e, func() {
		n.text += "a"
		wantRetire(t, e, n.put("c"), true)
		wantWaiting(t, e, 2)
	}, true)
	wantRetire(t, e, n.put("b"), true)
	wantCollect(t, e, 2)
	n.want(t, "ab")
	wantWaiting(t, e, 1)
	wantCollect(t, e, 1)
	n.want(t, "abc")
	wantCollect(t, e, 0)
}

func TestTheLastOneRetiresAnother(t *testing.T) { // P4.3
	e, times := epoch.New(), 0
	var again func()
	again = func() {
		times++
		wantRetire(t, e, again, true)
	}
	wantRetire(t, e, again, true)
	for i := range 5 {
		wantCollect(t, e, 1) // it ends, though it finds another one each time
		wantWaiting(t, e, 1)
		if times != i+1 {
			t.Fatalf("%d runs in %d Collects", times, i+1)
		}
	}
}

func TestACollectMeanwhileRunsNone(t *testing.T) { // P4.3
	e, n := epoch.New(), &notes{}
	for _, s := range []string{"a", "b", "c"} {
		wantRetire(t, e, func() {
			wantCollect(t, e, 0)
			n.text += s
			wantCollect(t, e, 0) // nor does the one ahead end the Collect that is under way
		}, true)
	}
	wantCollect(t, e, 3)
	n.want(t, "abc")
	wantRetire(t, e, n.put("d"), true)
	wantCollect(t, e, 1)
	n.want(t, "abcd")
}

func TestATaskThatIsPinnedMeanwhileHoldsNoneBack(t *testing.T) { // P4.3
	e, n := epoch.New(), &notes{}
	wantRetire(t, e, func() {
		wantPin(t, e, 1, true)
		wantRetire(t, e, n.put("c"), true)
	}, true)
	wantRetire(t, e, n.put("b"), true)
	wantCollect(t, e, 2)
	n.want(t, "b")
	wantPinned(t, e, 1)
	wantCollect(t, e, 0)
	wantUnpin(t, e, 1, true)
	wantCollect(t, e, 1)
	n.want(t, "bc")
}

func TestWhetherOneIsRipeIsAskedAtItsTurn(t *testing.T) { // P4.3
	e, n := epoch.New(), &notes{}
	wantRetire(t, e, func() {
		n.text += "a"
		wantUnpin(t, e, 1, true)
	}, true)
	wantPin(t, e, 1, true)
	wantRetire(t, e, func() {
		n.text += "b"
		wantPin(t, e, 1, true)   // not the Pin for which the next one waited
		wantUnpin(t, e, 2, true) // nobody's
	}, true)
	wantPin(t, e, 2, true)
	wantRetire(t, e, n.put("c"), true)
	wantPin(t, e, 3, true)
	wantRetire(t, e, n.put("d"), true)
	wantCollect(t, e, 3)
	n.want(t, "abc")
	wantPinned(t, e, 1, 3)
	wantUnpin(t, e, 3, true)
	wantCollect(t, e, 1)
	n.want(t, "abcd")
}

func TestATaskThatIsUnpinnedAndPinnedAgainMeanwhile(t *testing.T) { // P4.3, P4.5
	e, n := epoch.New(), &notes{}
	wantRetire(t, e, func() {
		wantUnpin(t, e, 1, true)
		wantPin(t, e, 1, true)
	}, true)
	wantPin(t, e, 1, true)
	wantRetire(t, e, n.put("b"), true)
	wantCollect(t, e, 2)
	n.want(t, "b")
	wantPinned(t, e, 1)
}

func TestAPanicMeanwhileKeepsWhatWasDone(t *testing.T) { // P4.3, R1
	e, n := epoch.New(), &notes{}
	wantRetire(t, e, func() {
		wantUnpin(t, e, 1, true)
		wantRetire(t, e, n.put("c"), true)
		wantCollect(t, e, 0)
		panic("a")
	}, true)
	wantPin(t, e, 1, true)
	wantRetire(t, e, n.put("b"), true)
	wantCollect(t, e, 2)
	n.want(t, "b")
	wantWaiting(t, e, 1)
	wantCollect(t, e, 1)
	n.want(t, "bc")
}
