package tasks_test

import (
	"math"
	"runtime"
	"slices"
	"strconv"
	"strings"
	"testing"

	"marshalling/api"
	"marshalling/tasks"
)

// notes are what was written, letter by letter.
type notes struct{ text string }

func (n *notes) put(s string) { n.text += s }

func (n *notes) want(t *testing.T, want string) {
	t.Helper()
	if n.text != want {
		t.Errorf("%q was written, want %q", n.text, want)
	}
}

// parts is a function that writes the letters of text, and pauses at each blank.
func (n *notes) parts(text string) func(x *tasks.Task) {
	return func(x *tasks.Task) {
		for _, c := range text {
			if c == ' ' {
				x.Pause()
			} else {
				n.put(string(c))
			}
		}
	}
}

// machine is one that is closed at the test's end.
func machine(t *testing.T) *tasks.Machine {
	m := tasks.New()
	t.Cleanup(m.Close)
	return m
}

func wantSpawn(t *testing.T, m *tasks.Machine, f func(x *tasks.Task), id int, want api.Errno) {
	t.Helper()
	if got, e := m.Spawn(f); got != id || e != want {
		t.Errorf("Spawn = %d, %d, want %d, %d", got, e, id, want)
	}
}

func wantStep(t *testing.T, m *tasks.Machine, pick, id int, ok bool) {
	t.Helper()
	if got, was := m.Step(pick); got != id || was != ok {
		t.Errorf("Step(%d) = %d, %t, want %d, %t", pick, got, was, id, ok)
	}
}

func wantStepOf(t *testing.T, m *tasks.Machine, id int, want bool) {
	t.Helper()
	if got := m.StepOf(id); got != want {
		t.Errorf("StepOf(%d) = %t, want %t", id, got, want)
	}
}

func wantLive(t *testing.T, m *tasks.Machine, want ...int) {
	t.Helper()
	if got := m.Live(); !slices.Equal(got, want) {
		t.Errorf("Live = %v, want %v", got, want)
	}
}

func wantSteps(t *testing.T, m *tasks.Machine, want int) {
	t.Helper()
	if got := m.Steps(); got != want {
		t.Errorf("Steps = %d, want %d", got, want)
	}
}

func nothing(x *tasks.Task) {}

// upTo are the numbers from 1 to n.
func upTo(n int) []int {
	var all []int
	for i := range n {
		all = append(all, i+1)
	}
	return all
}

func TestTheDocumentsFirstExample(t *testing.T) { // P5.1, P5.2, P5.3
	m, n := machine(t), &notes{}
	wantSpawn(t, m, n.parts("1 2"), 1, api.OK)
	wantSpawn(t, m, n.parts("3"), 2, api.OK)
	n.want(t, "")
	wantStep(t, m, 1, 2, true)
	n.want(t, "3")
	wantStep(t, m, 0, 1, true)
	n.want(t, "31")
	wantStep(t, m, 0, 1, true)
	n.want(t, "312")
	wantStep(t, m, 0, 0, false)
	n.want(t, "312")
}

func TestANewMachineHasNoTasks(t *testing.T) { // P5.1, P5.2
	m := machine(t)
	wantLive(t, m)
	wantSteps(t, m, 0)
	wantStep(t, m, 0, 0, false)
	wantStepOf(t, m, 0, false)
	wantStepOf(t, m, 1, false)
	wantSteps(t, m, 0)
}

func TestAMachineThatNewDidNotMakeIsANewOne(t *testing.T) { // R1
	var m tasks.Machine
	defer m.Close()
	n := &notes{}
	wantSpawn(t, &m, n.parts("a b"), 1, api.OK)
	wantLive(t, &m, 1)
	wantStep(t, &m, 0, 1, true)
	wantStepOf(t, &m, 1, true)
	wantStep(t, &m, 0, 0, false)
	n.want(t, "ab")
}

func TestATaskStandsAtItsBeginningBehindTheOthers(t *testing.T) { // P5.1
	m, n := machine(t), &notes{}
	for i := range 5 {
		wantSpawn(t, m, n.parts("x"), i+1, api.OK)
		wantLive(t, m, upTo(i+1)...)
	}
	wantSteps(t, m, 0)
	n.want(t, "")
	wantStepOf(t, m, 3, true)
	wantSpawn(t, m, n.parts("y"), 6, api.OK)
	wantLive(t, m, 1, 2, 4, 5, 6)
	n.want(t, "x")
}

func TestNoNumberIsGivenTwice(t *testing.T) { // P5.1, R2
	m := machine(t)
	wantSpawn(t, m, nothing, 1, api.OK)
	wantSpawn(t, m, nothing, 2, api.OK)
	wantStep(t, m, 1, 2, true)
	wantSpawn(t, m, nothing, 3, api.OK)
	wantStep(t, m, 0, 1, true)
	wantStep(t, m, 0, 3, true)
	wantLive(t, m)
	wantSpawn(t, m, nil, 0, api.ErrNil)
	wantSpawn(t, m, nothing, 4, api.OK)
	wantLive(t, m, 4)
}

func TestAMachineIsFullWithSixtyFourTasks(t *testing.T) { // P5.1, R2
	m, n := machine(t), &notes{}
	for i := range api.MaxTasks {
		wantSpawn(t, m, n.parts("a b"), i+1, api.OK)
	}
	for range 3 {
		wantSpawn(t, m, n.parts("never"), 0, api.ErrBusy)
	}
	wantSpawn(t, m, nil, 0, api.ErrNil)
	wantLive(t, m, upTo(64)...)
	wantStepOf(t, m, 64, true)
	wantSpawn(t, m, n.parts("never"), 0, api.ErrBusy)
	wantStepOf(t, m, 64, true)
	wantLive(t, m, upTo(63)...)
	wantSpawn(t, m, n.parts("c"), 65, api.OK)
	wantSpawn(t, m, n.parts("never"), 0, api.ErrBusy)
	wantStep(t, m, 63, 65, true)
	n.want(t, "abc")
	wantSteps(t, m, 3)
}

func TestSixtyFourTasksGoOnInTurn(t *testing.T) { // P5.2, P5.3
	m, n := machine(t), &notes{}
	for range api.MaxTasks {
		m.Spawn(n.parts("a b c"))
	}
	for pick := range 2 * api.MaxTasks {
		wantStep(t, m, pick, pick%64+1, true)
	}
	n.want(t, strings.Repeat("a", 64)+strings.Repeat("b", 64))
	for i := range api.MaxTasks {
		wantStep(t, m, 0, i+1, true)
	}
	wantStep(t, m, 0, 0, false)
	wantSteps(t, m, 192)
}

func TestTheFirstErrorIsAnswered(t *testing.T) { // P5.1, R2
	m := tasks.New()
	m.Close()
	wantSpawn(t, m, nil, 0, api.ErrNil)
	wantSpawn(t, m, nothing, 0, api.ErrGone)
	wantSpawn(t, nil, nil, 0, api.ErrNil)
	wantSpawn(t, nil, nothing, 0, api.ErrNil)
}

func TestPicks(t *testing.T) { // P5.2
	for _, c := range []struct{ live, pick, id int }{
		{1, 0, 1}, {1, 1, 1}, {1, -1, 1}, {1, 1000, 1}, {1, math.MaxInt, 1}, {1, math.MinInt, 1},
		{2, 0, 1}, {2, 1, 2}, {2, 2, 1}, {2, 3, 2}, {2, -1, 2}, {2, -2, 1}, {2, -3, 2}, {2, math.MinInt, 1}, {2, math.MaxInt, 2},
		{3, 0, 1}, {3, 2, 3}, {3, 3, 1}, {3, 5, 3}, {3, -1, 3}, {3, -2, 2}, {3, -3, 1}, {3, -4, 3}, {3, -7, 3},
		{3, math.MaxInt, math.MaxInt%3 + 1}, {3, math.MinInt, math.MinInt%3 + 4},
		{5, 4, 5}, {5, 5, 1}, {5, -1, 5}, {5, -5, 1}, {5, -6, 5}, {5, 12, 3}, {5, -12, 4},
		{64, 63, 64}, {64, 64, 1}, {64, -1, 64}, {64, -64, 1}, {64, -65, 64}, {64, math.MinInt, 1}, {64, math.MaxInt, 64},
	} {
		m, ran := machine(t), 0
		for range c.live {
			m.Spawn(func(x *tasks.Task) { ran = x.Id() })
		}
		wantStep(t, m, c.pick, c.id, true)
		if ran != c.id {
			t.Errorf("Step(%d) of %d tasks: the task %d made it, want %d", c.pick, c.live, ran, c.id)
		}
		if slices.Contains(m.Live(), c.id) || len(m.Live()) != c.live-1 {
			t.Errorf("Step(%d) of %d tasks: live are %v behind it", c.pick, c.live, m.Live())
		}
	}
}

func TestAPickIsAPlaceAmongTheLive(t *testing.T) { // P5.2
	m, n := machine(t), &notes{}
	for _, text := range []string{"a b", "c", "d e", "f"} {
		m.Spawn(n.parts(text))
	}
	wantStep(t, m, 1, 2, true)
	wantLive(t, m, 1, 3, 4)
	wantStep(t, m, 1, 3, true)
	wantStep(t, m, 2, 4, true)
	wantLive(t, m, 1, 3)
	wantStep(t, m, -1, 3, true)
	wantLive(t, m, 1)
	wantStep(t, m, 7, 1, true)
	wantStep(t, m, 7, 1, true)
	wantStep(t, m, 7, 0, false)
	n.want(t, "cdfeab")
	wantSteps(t, m, 6)
}

func TestStepOf(t *testing.T) { // P5.2
	m, n := machine(t), &notes{}
	m.Spawn(n.parts("a b"))
	m.Spawn(n.parts("c"))
	for _, id := range []int{0, 3, -1, -2, 65, math.MaxInt, math.MinInt} {
		wantStepOf(t, m, id, false)
	}
	wantSteps(t, m, 0)
	wantStepOf(t, m, 2, true)
	wantStepOf(t, m, 2, false)
	wantStepOf(t, m, 1, true)
	wantStepOf(t, m, 2, false)
	wantStepOf(t, m, 1, true)
	wantStepOf(t, m, 1, false)
	n.want(t, "cab")
	wantSteps(t, m, 3)
}

func TestAStepEndsAtAPauseOrAtTheEnd(t *testing.T) { // P5.2, P5.3
	m, n := machine(t), &notes{}
	m.Spawn(n.parts(" ab  c "))
	for i, want := range []string{"", "ab", "ab", "abc", "abc"} {
		wantLive(t, m, 1)
		wantStep(t, m, i, 1, true)
		n.want(t, want)
	}
	wantLive(t, m)
	wantStep(t, m, 0, 0, false)
	wantSteps(t, m, 5)
}

func TestAFunctionThatEndsWithoutAPause(t *testing.T) { // P5.2
	m := machine(t)
	m.Spawn(nothing)
	wantStep(t, m, 0, 1, true)
	wantLive(t, m)
	wantSteps(t, m, 1)
	wantStep(t, m, 0, 0, false)
	wantStepOf(t, m, 1, false)
}

func TestTasksPauseWhereverTheyAre(t *testing.T) { // P5.3
	m, n := machine(t), &notes{}
	m.Spawn(func(x *tasks.Task) {
		var down func(depth int)
		down = func(depth int) {
			n.put(strconv.Itoa(depth))
			x.Pause()
			if depth < 3 {
				down(depth + 1)
			}
			n.put("u")
		}
		down(1)
	})
	for _, want := range []string{"1", "12", "123", "123uuu"} {
		wantStep(t, m, 0, 1, true)
		n.want(t, want)
	}
	wantLive(t, m)
}

func TestATaskThatPausesInWhatItHasDeferred(t *testing.T) { // P5.3
	m, n := machine(t), &notes{}
	m.Spawn(func(x *tasks.Task) {
		defer n.put("d")
		defer func() {
			n.put("b")
			x.Pause()
			n.put("c")
		}()
		n.put("a")
	})
	m.Spawn(n.parts("x"))
	wantStep(t, m, 0, 1, true)
	n.want(t, "ab")
	wantLive(t, m, 1, 2)
	wantStep(t, m, 1, 2, true)
	wantStep(t, m, 0, 1, true)
	n.want(t, "abxcd")
	wantLive(t, m)
}

func TestATaskThatPanicsIsAtItsEnd(t *testing.T) { // P5.2, R1
	m, n := machine(t), &notes{}
	m.Spawn(func(x *tasks.Task) { panic("no") })
	m.Spawn(func(x *tasks.Task) {
		defer n.put("c")
		defer func() {
			n.put("a")
			x.Pause()
			n.put("b")
		}()
		var none []int
		n.put(strconv.Itoa(none[x.Id()]))
	})
	m.Spawn(func(x *tasks.Task) {
		x.Pause()
		defer func() { panic("once more") }()
		panic(nil)
	})
	m.Spawn(n.parts("d"))
	wantStep(t, m, 0, 1, true)
	wantLive(t, m, 2, 3, 4)
	wantStep(t, m, 0, 2, true)
	wantStep(t, m, 1, 3, true)
	n.want(t, "a")
	wantLive(t, m, 2, 3, 4)
	wantStep(t, m, 1, 3, true)
	wantStep(t, m, 0, 2, true)
	n.want(t, "abc")
	wantLive(t, m, 4)
	wantStep(t, m, 0, 4, true)
	n.want(t, "abcd")
	wantSteps(t, m, 6)
}

func TestATaskThatCatchesItsOwnPanicGoesOn(t *testing.T) { // P5.6, R1
	m, n := machine(t), &notes{}
	m.Spawn(func(x *tasks.Task) {
		func() {
			defer func() { n.put(recover().(string)) }()
			x.Pause()
			panic("p")
		}()
		x.Pause()
		n.put("q")
	})
	for _, want := range []string{"", "p", "pq"} {
		wantLive(t, m, 1)
		wantStep(t, m, 0, 1, true)
		n.want(t, want)
	}
	wantLive(t, m)
}

func TestATaskThatGivesItsGoroutineUpIsAtItsEnd(t *testing.T) { // P5.2, R1
	m, n := machine(t), &notes{}
	m.Spawn(func(x *tasks.Task) {
		defer n.put("a")
		x.Pause()
		runtime.Goexit()
	})
	wantStep(t, m, 0, 1, true)
	wantStep(t, m, 0, 1, true)
	n.want(t, "a")
	wantLive(t, m)
}

func TestWhatIsAskedWithinAStep(t *testing.T) { // P5.1, P5.2, P5.3
	m, n := machine(t), &notes{}
	m.Spawn(n.parts("a b"))
	m.Spawn(func(x *tasks.Task) {
		wantLive(t, m, 1, 2)
		wantSteps(t, m, 1)
		wantStep(t, m, 0, 0, false)
		wantStepOf(t, m, 1, false)
		wantStepOf(t, m, 2, false)
		m.Close()
		wantLive(t, m, 1, 2)
		wantSteps(t, m, 1)
		x.Pause()
		wantSteps(t, m, 2)
		defer func() {
			wantLive(t, m, 1, 2)
			wantSteps(t, m, 2)
			wantStep(t, m, 0, 0, false)
		}()
	})
	wantStepOf(t, m, 1, true)
	wantStepOf(t, m, 2, true)
	wantStepOf(t, m, 2, true)
	wantSteps(t, m, 3)
	wantLive(t, m, 1)
	wantStep(t, m, 0, 1, true)
	n.want(t, "ab")
}

func TestATaskSpawnsOthersWhileItRuns(t *testing.T) { // P5.1
	m, n := machine(t), &notes{}
	m.Spawn(func(x *tasks.Task) {
		wantSpawn(t, m, n.parts("c"), 3, api.OK)
		n.put("a")
		wantSpawn(t, m, nil, 0, api.ErrNil)
		wantLive(t, m, 1, 2, 3)
		x.Pause()
		wantSpawn(t, m, n.parts("d"), 4, api.OK)
	})
	m.Spawn(n.parts("b"))
	wantStep(t, m, 0, 1, true)
	n.want(t, "a")
	wantLive(t, m, 1, 2, 3)
	wantStep(t, m, 0, 1, true)
	wantLive(t, m, 2, 3, 4)
	wantStep(t, m, 2, 4, true)
	wantStep(t, m, 0, 2, true)
	wantStep(t, m, 0, 3, true)
	n.want(t, "adbc")
}

func TestATaskThatRunsIsOneOfTheSixtyFour(t *testing.T) { // P5.1
	m := machine(t)
	for range 63 {
		m.Spawn(nothing)
	}
	m.Spawn(func(x *tasks.Task) {
		defer wantSpawn(t, m, nothing, 0, api.ErrBusy)
		wantSpawn(t, m, nothing, 0, api.ErrBusy)
	})
	wantStepOf(t, m, 64, true)
	wantSpawn(t, m, nothing, 65, api.OK)
	m.StepOf(65)
	m.Spawn(func(x *tasks.Task) { panic("no") })
	m.StepOf(66)
	wantSpawn(t, m, nothing, 67, api.OK)
}

func TestAtMostMaxStepsAreMade(t *testing.T) { // P5.2
	m := machine(t)
	count := 0
	m.Spawn(func(x *tasks.Task) {
		for {
			count++
			x.Pause()
		}
	})
	m.Spawn(nothing)
	wantStepOf(t, m, 2, true)
	for m.Steps() < api.MaxSteps-1 {
		if _, ok := m.Step(m.Steps()); !ok {
			t.Fatalf("Step makes none behind %d steps", m.Steps())
		}
	}
	m.Spawn(nothing)
	wantStep(t, m, 0, 1, true)
	wantSteps(t, m, 1<<20)
	wantStep(t, m, 0, 0, false)
	wantStep(t, m, 1, 0, false)
	wantStepOf(t, m, 1, false)
	wantStepOf(t, m, 3, false)
	wantSteps(t, m, 1<<20)
	wantLive(t, m, 1, 3)
	wantSpawn(t, m, nothing, 4, api.OK)
	if count != 1<<20-1 {
		t.Errorf("the task made %d steps", count)
	}
}

func TestIdAndStepsOfATask(t *testing.T) { // P5.3
	m := machine(t)
	var all []*tasks.Task
	for range 3 {
		m.Spawn(func(x *tasks.Task) {
			all = append(all, x)
			for i := range 3 {
				if x.Steps() != i+1 {
					t.Errorf("Steps in step %d = %d", i+1, x.Steps())
				}
				x.Pause()
			}
		})
	}
	for _, id := range []int{3, 1, 3, 2, 3, 1} {
		wantStepOf(t, m, id, true)
	}
	want := func(steps ...int) {
		t.Helper()
		for i, id := range []int{3, 1, 2} {
			if all[i].Id() != id || all[i].Steps() != steps[i] {
				t.Errorf("task %d with %d steps, want %d with %d", all[i].Id(), all[i].Steps(), id, steps[i])
			}
		}
	}
	want(3, 2, 1)
	wantStepOf(t, m, 3, true)
	wantStepOf(t, m, 3, false)
	want(4, 2, 1)
	m.Close()
	want(4, 2, 1)
	wantSteps(t, m, 7)
}

func TestANilTask(t *testing.T) { // P5.3
	var x *tasks.Task
	x.Pause()
	if x.Id() != 0 || x.Steps() != 0 {
		t.Errorf("a nil task: %d, %d", x.Id(), x.Steps())
	}
	m := machine(t)
	m.Spawn(func(*tasks.Task) { x.Pause() })
	wantStep(t, m, 0, 1, true)
	wantLive(t, m)
}

func TestATaskThatSpawnDidNotMake(t *testing.T) { // P5.3, R1
	var x tasks.Task
	x.Pause()
	if x.Id() != 0 || x.Steps() != 0 {
		t.Errorf("a task that Spawn did not make: %d, %d", x.Id(), x.Steps())
	}
}

func TestPauseOfATaskThatDoesNotRun(t *testing.T) { // P5.3
	m, n := machine(t), &notes{}
	var x, y *tasks.Task
	m.Spawn(func(a *tasks.Task) {
		x = a
		n.put("a")
		a.Pause()
		y.Pause()
		n.put("b")
		a.Pause()
		n.put("c")
	})
	m.Spawn(func(b *tasks.Task) {
		y = b
		x.Pause()
		n.put("d")
		b.Pause()
		x.Pause()
		n.put("e")
	})
	wantStep(t, m, 0, 1, true)
	x.Pause()
	wantStep(t, m, 1, 2, true)
	n.want(t, "ad")
	x.Pause()
	y.Pause()
	wantStep(t, m, 0, 1, true)
	n.want(t, "adb")
	wantStep(t, m, 1, 2, true)
	n.want(t, "adbe")
	y.Pause()
	wantStep(t, m, 0, 1, true)
	x.Pause()
	n.want(t, "adbec")
	wantSteps(t, m, 5)
	if x.Steps() != 3 || y.Steps() != 2 {
		t.Errorf("the tasks' steps: %d, %d", x.Steps(), y.Steps())
	}
	m.Close()
	x.Pause()
	y.Pause()
}

func TestANilMachine(t *testing.T) { // P5.5
	var m *tasks.Machine
	wantLive(t, m)
	wantSteps(t, m, 0)
	wantStep(t, m, 0, 0, false)
	wantStep(t, m, -1, 0, false)
	wantStepOf(t, m, 0, false)
	wantStepOf(t, m, 1, false)
	wantSpawn(t, m, nothing, 0, api.ErrNil)
	m.Close()
	wantSpawn(t, m, nothing, 0, api.ErrNil)
}

func TestLiveIsNewMemory(t *testing.T) { // R4
	m := machine(t)
	for range 3 {
		m.Spawn(nothing)
	}
	one, two := m.Live(), m.Live()
	clear(one)
	if !slices.Equal(two, upTo(3)) {
		t.Errorf("one Live has changed with another one: %v", two)
	}
	wantLive(t, m, 1, 2, 3)
	_ = append(two[:1], 9, 9)
	wantLive(t, m, 1, 2, 3)
	wantStep(t, m, 1, 2, true)
	kept := m.Live()
	wantStep(t, m, 0, 1, true)
	if !slices.Equal(kept, []int{1, 3}) {
		t.Errorf("a Live has changed behind a step: %v", kept)
	}
}

func TestMachinesKnowNothingOfOneAnother(t *testing.T) { // R3
	m, other, n := machine(t), machine(t), &notes{}
	m.Spawn(func(x *tasks.Task) {
		wantStep(t, other, 0, 1, true)
		n.put("a")
		x.Pause()
		other.Close()
		n.put("b")
	})
	wantSpawn(t, other, n.parts("c d"), 1, api.OK)
	wantStep(t, m, 0, 1, true)
	n.want(t, "ca")
	wantSteps(t, m, 1)
	wantSteps(t, other, 1)
	wantStep(t, m, 0, 1, true)
	n.want(t, "cab")
	wantLive(t, other)
	wantSpawn(t, other, nothing, 0, api.ErrGone)
	wantSpawn(t, m, nothing, 2, api.OK)
	wantLive(t, m, 2)
}

func TestATaskPausesWhileItStepsAnotherMachine(t *testing.T) { // P5.2, P5.3
	m, inner, n := machine(t), machine(t), &notes{}
	m.Spawn(func(x *tasks.Task) {
		inner.Spawn(func(y *tasks.Task) {
			n.put("a")
			x.Pause() // x runs, as it is x's step in which y makes one
			n.put("b")
		})
		wantStep(t, inner, 0, 1, true)
		n.put("c")
	})
	wantStep(t, m, 0, 1, true)
	n.want(t, "a")
	wantStep(t, inner, 0, 0, false)
	wantSteps(t, inner, 0)
	wantStep(t, m, 0, 1, true)
	n.want(t, "abc")
	wantLive(t, m)
	wantLive(t, inner)
	wantSteps(t, inner, 1)
}
