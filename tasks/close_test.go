package tasks_test

import (
	"runtime"
	"strconv"
	"testing"
	"time"
	"weak"

	"marshalling/api"
	"marshalling/tasks"
)

// wantGoroutines waits till no more than n goroutines are left: the last thing that one of a task does is to tell so, and then it has to go.
func wantGoroutines(t *testing.T, n int) {
	t.Helper()
	for range 1000 {
		if runtime.NumGoroutine() <= n {
			return
		}
		time.Sleep(time.Millisecond)
	}
	t.Errorf("%d goroutines are left, want %d", runtime.NumGoroutine(), n)
}

func TestTheDocumentsExamplesOfClose(t *testing.T) { // P5.1, P5.4
	full := tasks.New()
	for range 64 {
		full.Spawn(nothing)
	}
	wantSpawn(t, full, nothing, 0, api.ErrBusy)
	full.Close()
	wantSpawn(t, full, nothing, 0, api.ErrGone)

	m, n := tasks.New(), &notes{}
	m.Spawn(func(x *tasks.Task) {
		defer n.put("9")
		x.Pause()
		n.put("2")
	})
	wantStep(t, m, 0, 1, true)
	n.want(t, "")
	m.Close()
	n.want(t, "9")
}

func TestNoTaskIsLiveBehindClose(t *testing.T) { // P5.1, P5.2, P5.4
	m, n := tasks.New(), &notes{}
	for range 4 {
		m.Spawn(n.parts("a b c"))
	}
	for _, id := range []int{1, 3, 3, 4, 4, 4} {
		wantStepOf(t, m, id, true)
	}
	for range 2 {
		m.Close()
		n.want(t, "aababc")
		wantLive(t, m)
		wantSteps(t, m, 6)
		wantStep(t, m, 0, 0, false)
		wantStep(t, m, 1, 0, false)
		for id := range 6 {
			wantStepOf(t, m, id, false)
		}
		wantSpawn(t, m, nothing, 0, api.ErrGone)
		wantSpawn(t, m, nil, 0, api.ErrNil)
	}
	n.want(t, "aababc")
}

func TestAMachineWithoutTasksIsShutToo(t *testing.T) { // P5.4
	m := tasks.New()
	m.Close()
	wantSpawn(t, m, nothing, 0, api.ErrGone)
	ended := tasks.New()
	ended.Spawn(nothing)
	ended.Step(0)
	ended.Close()
	wantSpawn(t, ended, nothing, 0, api.ErrGone)
	wantSteps(t, ended, 1)
}

func TestCloseStopsWhatHasBegun(t *testing.T) { // P5.4, R7
	m, n := tasks.New(), &notes{}
	for _, c := range "abcde" {
		m.Spawn(func(x *tasks.Task) {
			defer n.put(string(c))
			x.Pause()
			x.Pause()
			n.put("!")
		})
	}
	for _, id := range []int{5, 5, 2, 4, 4, 4, 1} {
		wantStepOf(t, m, id, true)
	}
	n.want(t, "!d")
	m.Close()
	n.want(t, "!dabe") // 3 has not begun, 4 was at its end
	m.Close()
	n.want(t, "!dabe")
}

func TestAllThatIsDeferredRuns(t *testing.T) { // P5.4, R7
	m, n := tasks.New(), &notes{}
	m.Spawn(func(x *tasks.Task) {
		defer n.put("1")
		for _, s := range []string{"2", "3"} {
			defer n.put(s)
		}
		func() {
			defer n.put("4")
			func() {
				defer n.put("5")
				x.Pause()
				defer n.put("not deferred yet")
				n.put("behind")
			}()
			n.put("behind")
		}()
		defer n.put("not deferred yet")
	})
	wantStep(t, m, 0, 1, true)
	m.Close()
	n.want(t, "54321")
}

func TestWhatIsDeferredStopsInTheMidst(t *testing.T) { // P5.4
	m, n := tasks.New(), &notes{}
	m.Spawn(func(x *tasks.Task) {
		defer n.put("c")
		defer func() {
			defer n.put("b")
			n.put("a")
			x.Pause()
			n.put("never")
		}()
	})
	m.Spawn(func(x *tasks.Task) {
		defer n.put("f")
		defer func() {
			defer n.put("e")
			n.put("d")
			x.Pause()
			n.put("never")
		}()
		panic("no")
	})
	wantStep(t, m, 0, 1, true)
	wantStep(t, m, 1, 2, true)
	n.want(t, "ad")
	m.Close()
	n.want(t, "adbcef")
}

func TestWhatIsDeferredPanicsOrCatches(t *testing.T) { // P5.4, R1
	m, n := tasks.New(), &notes{}
	m.Spawn(func(x *tasks.Task) {
		defer n.put("b")
		defer func() { panic("no") }()
		defer n.put("a")
		x.Pause()
		n.put("never")
	})
	m.Spawn(func(x *tasks.Task) {
		defer n.put("d")
		defer func() {
			if recover() != nil {
				n.put("c")
			}
		}()
		x.Pause()
		n.put("never")
	})
	m.Spawn(func(x *tasks.Task) {
		defer n.put("e")
		defer runtime.Goexit()
		x.Pause()
		n.put("never")
	})
	m.Spawn(func(x *tasks.Task) {
		defer n.put("g")
		defer func() {
			cause := recover()
			n.put("f")
			panic(cause)
		}()
		x.Pause()
		n.put("never")
	})
	for id := range 4 {
		wantStepOf(t, m, id+1, true)
	}
	m.Close()
	n.want(t, "abcdefg")
}

func TestWhatIsDeferredAsksTheMachine(t *testing.T) { // P5.4
	m, n := tasks.New(), &notes{}
	for range 3 {
		m.Spawn(func(x *tasks.Task) {
			defer func() {
				wantLive(t, m)
				wantSteps(t, m, 3)
				wantStep(t, m, 0, 0, false)
				wantStepOf(t, m, 3, false)
				wantSpawn(t, m, nothing, 0, api.ErrGone)
				m.Close()
				n.put(strconv.Itoa(x.Id()) + strconv.Itoa(x.Steps()))
			}()
			x.Pause()
		})
	}
	for pick := range 3 {
		m.Step(pick)
	}
	m.Close()
	n.want(t, "112131")
}

func TestWhatIsDeferredPauses(t *testing.T) { // P5.3, P5.4
	m, n := tasks.New(), &notes{}
	var all []*tasks.Task
	for _, c := range "ab" {
		m.Spawn(func(x *tasks.Task) {
			all = append(all, x)
			defer n.put(string(c))
			defer func() {
				for _, y := range all {
					y.Pause()
					n.put(string(c))
				}
			}()
			x.Pause()
			n.put("never")
		})
	}
	m.Step(0)
	m.Step(1)
	m.Close()
	n.want(t, "aaabbb")
	if all[0].Steps() != 1 || m.Steps() != 2 {
		t.Errorf("steps: %d, %d", all[0].Steps(), m.Steps())
	}
}

func TestWhatIsDeferredWaitsInVain(t *testing.T) { // P5.4, R1
	m, n := tasks.New(), &notes{}
	left := runtime.NumGoroutine()
	free := false
	m.Spawn(func(x *tasks.Task) {
		defer n.put("b")
		defer func() {
			defer n.put("a")
			for !free {
				x.Pause()
			}
			n.put("never")
		}()
		x.Pause()
	})
	m.Spawn(func(x *tasks.Task) {
		x.Pause()
		free = true
	})
	m.Step(0)
	m.Step(1)
	m.Close()
	n.want(t, "ab")
	wantLive(t, m)
	wantGoroutines(t, left)
}

func TestCloseEndsWhateverATaskCatches(t *testing.T) { // P5.4, R1
	m, n := tasks.New(), &notes{}
	m.Spawn(func(x *tasks.Task) {
		catch := func() {
			defer func() { recover() }()
			x.Pause()
		}
		for {
			catch()
		}
	})
	m.Spawn(func(x *tasks.Task) {
		defer n.put("a")
		x.Pause()
	})
	for pick := range 4 {
		wantStep(t, m, pick, pick%2+1, true)
	}
	n.want(t, "a")
	m.Spawn(func(x *tasks.Task) {
		defer n.put("b")
		x.Pause()
	})
	m.StepOf(3)
	m.Close()
	n.want(t, "ab")
	wantLive(t, m)
	wantSpawn(t, m, nothing, 0, api.ErrGone)
}

func TestCloseWithinAStepDoesNothing(t *testing.T) { // P5.4
	m, n := machine(t), &notes{}
	m.Spawn(func(x *tasks.Task) {
		defer m.Close()
		m.Close()
		n.put("a")
		x.Pause()
		n.put("b")
	})
	m.Spawn(n.parts("c d"))
	wantStepOf(t, m, 2, true)
	wantStepOf(t, m, 1, true)
	wantLive(t, m, 1, 2)
	wantStepOf(t, m, 1, true)
	wantLive(t, m, 2)
	wantSpawn(t, m, n.parts("e"), 3, api.OK)
	wantStepOf(t, m, 2, true)
	wantStepOf(t, m, 3, true)
	n.want(t, "cabde")
}

func TestOneMachineIsClosedByATaskOfAnother(t *testing.T) { // P5.4, R3
	m, other, n := machine(t), machine(t), &notes{}
	other.Spawn(func(x *tasks.Task) {
		defer n.put("b")
		x.Pause()
	})
	other.Step(0)
	m.Spawn(func(x *tasks.Task) {
		n.put("a")
		other.Close()
		x.Pause()
		n.put("c")
	})
	wantStep(t, m, 0, 1, true)
	n.want(t, "ab")
	wantLive(t, m, 1)
	wantStep(t, m, 0, 1, true)
	n.want(t, "abc")
}

func TestATaskIsStoppedWhileItStepsOtherMachines(t *testing.T) { // P5.4, R7
	m, mid, low, n := tasks.New(), machine(t), machine(t), &notes{}
	left := runtime.NumGoroutine()
	m.Spawn(func(x *tasks.Task) {
		mid.Spawn(func(y *tasks.Task) {
			low.Spawn(func(z *tasks.Task) {
				defer n.put("a")
				x.Pause()
				n.put("never")
			})
			defer n.put("b")
			low.Step(0)
			n.put("never")
		})
		defer n.put("c")
		mid.Step(0)
		n.put("never")
	})
	wantStep(t, m, 0, 1, true)
	m.Close()
	n.want(t, "abc")
	wantLive(t, mid)
	wantLive(t, low)
	wantSteps(t, mid, 1)
	wantSteps(t, low, 1)
	wantSpawn(t, mid, n.parts("d"), 2, api.OK)
	wantStep(t, mid, 0, 2, true)
	n.want(t, "abcd")
	wantGoroutines(t, left)
}

func TestAStopThatIsKeptStopsNobodyLater(t *testing.T) { // P5.4, R1
	m, other, n := tasks.New(), machine(t), &notes{}
	var kept any
	m.Spawn(func(x *tasks.Task) {
		defer func() { kept = recover() }()
		x.Pause()
	})
	m.Step(0)
	m.Close()
	other.Spawn(func(x *tasks.Task) { panic(kept) })
	other.Spawn(n.parts("a"))
	wantStep(t, other, 0, 1, true)
	wantStep(t, other, 0, 2, true)
	n.want(t, "a")
	wantSteps(t, other, 2)
}

func TestNothingGoesOnBehindClose(t *testing.T) { // P5.4, R7
	left := runtime.NumGoroutine()
	for round := range 20 {
		m := tasks.New()
		for range 64 {
			m.Spawn(func(x *tasks.Task) {
				for range x.Id() % 5 {
					x.Pause()
				}
			})
		}
		for pick := range 20 * round {
			m.Step(3 * pick)
		}
		m.Close()
	}
	wantGoroutines(t, left)
}

func TestAMachineKeepsNothingOfATaskAtItsEnd(t *testing.T) { // P5.2, P5.4
	m := tasks.New()
	var ended, stopped weak.Pointer[[64]int]
	spawn := func(to *weak.Pointer[[64]int]) {
		big := new([64]int)
		*to = weak.Make(big)
		m.Spawn(func(x *tasks.Task) {
			x.Pause()
			big[0]++
		})
	}
	spawn(&ended)
	spawn(&stopped)
	m.Spawn(func(x *tasks.Task) { x.Pause() })
	m.StepOf(1)
	m.StepOf(1)
	m.StepOf(2)
	wantForgotten(t, ended)
	m.Close()
	wantForgotten(t, stopped)
	runtime.KeepAlive(m)
}

func wantForgotten(t *testing.T, p weak.Pointer[[64]int]) {
	t.Helper()
	for range 100 {
		runtime.GC()
		if p.Value() == nil {
			return
		}
		time.Sleep(time.Millisecond)
	}
	t.Error("what the task had is kept")
}
