package tasks_test

import (
	"fmt"
	"slices"
	"strings"
	"testing"

	"marshalling/api"
	"marshalling/tasks"
	"marshalling/testrows"
)

// deferred are programs that others defer, by their names.
//
// A program is a text that is done letter by letter. A letter from a to l is written, with the task's number ahead of it; the name of a deferred one defers it; of the others - pauses, ? writes what Live, Steps and the task's own Steps answer, + spawns a task of the next program, ! calls Step, StepOf and Close, * panics, and < pauses all tasks that do not run.
var deferred = map[rune]string{'D': "d", 'E': "e-f", 'F': "g*h"}

var programs = []string{"a-b", "", "a?-b?-c?", "D-a-b", "aD*b", "-E-F-", "+a-+b", "!a-!b<", "DEF", "E*", "+D!-!*", "a<-<b--c"}

// plain is the machine as the chapter tells it, by programs alone: nothing of it goes on by itself.
type plain struct {
	live  []*plainTask
	given int
	steps int
	shut  bool
	text  string
}

type plainTask struct {
	id, steps int
	first     int    // which program it is
	rest      string // of the function that runs
	later     []string
}

func (m *plain) spawn(program int) (int, api.Errno) {
	if m.shut {
		return 0, api.ErrGone
	}
	if len(m.live) == 64 {
		return 0, api.ErrBusy
	}
	m.given++
	m.live = append(m.live, &plainTask{id: m.given, first: program, rest: programs[program%len(programs)]})
	return m.given, api.OK
}

func (m *plain) step(pick int) (int, bool) {
	n := len(m.live)
	if n == 0 {
		return 0, false
	}
	for pick < 0 {
		pick += n
	}
	t := m.live[pick%n]
	t.steps++
	if m.run(t, false) {
		m.live = slices.DeleteFunc(m.live, func(x *plainTask) bool { return x.id == t.id })
	}
	m.steps++
	return t.id, true
}

func (m *plain) stepOf(id int) bool {
	for i, t := range m.live {
		if t.id == id {
			m.step(i)
			return true
		}
	}
	return false
}

func (m *plain) close() {
	m.shut = true
	left := m.live
	m.live = nil
	for _, t := range left {
		if t.steps > 0 {
			t.rest = ""
			m.run(t, true)
		}
	}
}

// run has t go on to its pause, or, where it is stopped, over its pauses: whether it came to its end.
func (m *plain) run(t *plainTask, stopped bool) bool {
	for {
		for t.rest != "" {
			c := rune(t.rest[0])
			t.rest = t.rest[1:]
			if c == '-' && !stopped {
				return false
			}
			if c == '*' {
				t.rest = ""
			}
			m.do(t, c)
		}
		if len(t.later) == 0 {
			return true
		}
		t.rest, t.later = t.later[len(t.later)-1], t.later[:len(t.later)-1]
	}
}

func (m *plain) do(t *plainTask, c rune) {
	switch {
	case c >= 'a' && c <= 'l':
		m.text += fmt.Sprint(t.id, string(c))
	case c == '?':
		m.text += fmt.Sprint(t.id, m.ids(), m.steps, t.steps)
	case c == '+':
		m.text += fmt.Sprint(m.spawn(t.first + 1))
	case deferred[c] != "":
		t.later = append(t.later, deferred[c])
	}
}

func (m *plain) ids() []int {
	ids := []int{}
	for _, t := range m.live {
		ids = append(ids, t.id)
	}
	return ids
}

// real is a machine, and what was written.
type real struct {
	m     *tasks.Machine
	tasks []*tasks.Task
	text  string
	odd   string // what was answered to calls within a step that have to do nothing
}

func (r *real) spawn(program int) (int, api.Errno) {
	return r.m.Spawn(func(t *tasks.Task) {
		r.tasks = append(r.tasks, t)
		r.run(t, program, programs[program%len(programs)])
	})
}

func (r *real) run(t *tasks.Task, first int, program string) {
	for _, c := range program {
		switch {
		case c >= 'a' && c <= 'l':
			r.text += fmt.Sprint(t.Id(), string(c))
		case c == '-':
			t.Pause()
		case c == '?':
			r.text += fmt.Sprint(t.Id(), append([]int{}, r.m.Live()...), r.m.Steps(), t.Steps())
		case c == '+':
			r.text += fmt.Sprint(r.spawn(first + 1))
		case c == '!':
			r.askWithin(t)
		case c == '*':
			panic(t.Id())
		case c == '<':
			r.pauseOthers(t)
		default:
			defer r.run(t, first, deferred[c])
		}
	}
}

func (r *real) askWithin(t *tasks.Task) {
	if id, ok := r.m.Step(t.Id()); id != 0 || ok || r.m.StepOf(t.Id()) {
		r.odd += "a step within a step; "
	}
	r.m.Close()
}

func (r *real) pauseOthers(t *tasks.Task) {
	for _, x := range r.tasks {
		if x != t {
			x.Pause()
		}
	}
}

// both are a machine and its model, of which the same is asked.
type both struct {
	real
	plain
	done []string
}

func newBoth() *both { return &both{real: real{m: tasks.New()}} }

// ask asks for one thing: its kind is what % 8, and what / 8 says which.
func (b *both) ask(what int) (got, want string) {
	switch which := what / 8; what % 8 {
	case 0, 1, 2:
		b.done = append(b.done, fmt.Sprint("Step ", which-3))
		return fmt.Sprint(b.m.Step(which - 3)), fmt.Sprint(b.plain.step(which - 3))
	case 3:
		b.done = append(b.done, fmt.Sprint("StepOf ", which))
		return fmt.Sprint(b.m.StepOf(which)), fmt.Sprint(b.plain.stepOf(which))
	case 7:
		b.done = append(b.done, "Close")
		b.m.Close()
		b.plain.close()
		return "", ""
	default:
		b.done = append(b.done, "Spawn "+programs[which%len(programs)])
		return fmt.Sprint(b.real.spawn(which)), fmt.Sprint(b.plain.spawn(which))
	}
}

// check asks, and holds all that can be seen against the model.
func (b *both) check(t *testing.T, what int) {
	t.Helper()
	got, want := b.ask(what)
	if got != want {
		t.Fatalf("%v: answers %s, want %s", b.done, got, want)
	}
	if b.real.text != b.plain.text || b.odd != "" {
		t.Fatalf("%v: %q was written, want %q (%s)", b.done, b.real.text, b.plain.text, b.odd)
	}
	if live := b.m.Live(); !slices.Equal(live, b.ids()) || b.m.Steps() != b.plain.steps {
		t.Fatalf("%v: live %v, steps %d, want %v, %d", b.done, live, b.m.Steps(), b.ids(), b.plain.steps)
	}
	b.checkTasks(t)
}

func (b *both) checkTasks(t *testing.T) {
	t.Helper()
	for _, x := range b.tasks {
		i := slices.IndexFunc(b.plain.live, func(p *plainTask) bool { return p.id == x.Id() })
		if i >= 0 && b.plain.live[i].steps != x.Steps() {
			t.Fatalf("%v: task %d has begun %d steps, want %d", b.done, x.Id(), x.Steps(), b.plain.live[i].steps)
		}
	}
}

func TestEveryShortRowOfCalls(t *testing.T) { // P5.1, P5.2, P5.3, P5.4
	step, stepOf, spawn := 0, 3, 4
	alphabet := []int{step + 8*2, step + 8*3, step + 8*4, stepOf + 8*1, stepOf + 8*2, spawn + 8*3, spawn + 8*6, 7}
	var rows func(row []int)
	rows = func(row []int) {
		b := newBoth()
		for _, what := range row {
			b.check(t, what)
		}
		b.check(t, 7)
		if len(row) < 5 {
			for _, what := range alphabet {
				rows(append(row[:len(row):len(row)], what))
			}
		}
	}
	rows(nil)
}

func TestLongRowsOfCalls(t *testing.T) { // P5.1, P5.2, P5.3, P5.4
	for seed := range uint64(150) {
		draw, b := testrows.Draws(seed), newBoth()
		for range 300 {
			what := draw(8)
			if what == 7 && draw(40) != 0 {
				what = 0
			}
			b.check(t, what+8*draw(40))
		}
		b.check(t, 7)
	}
}

// script is what a test asks of a machine: at first tasks of those programs, and then a row of picks.
type script struct {
	programs []int
	picks    []int
}

func drawScript(draw func(n int) int) script {
	var s script
	for range 1 + draw(6) {
		s.programs = append(s.programs, draw(len(programs)))
	}
	for range draw(30) {
		s.picks = append(s.picks, draw(20)-10)
	}
	return s
}

// begin is a machine with the script's tasks.
func (s script) begin() *real {
	r := &real{m: tasks.New()}
	for _, p := range s.programs {
		r.spawn(p)
	}
	return r
}

// goOn makes the picks, and tells each step, with what was written in it.
func (r *real) goOn(picks []int) []string {
	var told []string
	for _, pick := range picks {
		ahead := len(r.text)
		id, ok := r.m.Step(pick)
		told = append(told, fmt.Sprint(id, ok, r.text[ahead:]))
	}
	return told
}

func TestAScriptThatIsCutInTwo(t *testing.T) { // P5.7
	for seed := range uint64(60) {
		s := drawScript(testrows.Draws(seed))
		whole := s.begin()
		want := whole.goOn(s.picks)
		whole.m.Close()
		for cut := range len(s.picks) + 1 {
			r := s.begin()
			got := r.goOn(s.picks[:cut])
			r.m.Live()
			r.pauseOthers(nil)
			got = append(got, r.goOn(s.picks[cut:])...)
			r.m.Close()
			if !slices.Equal(got, want) || r.text != whole.text {
				t.Fatalf("%v cut at %d: %q, want %q", s, cut, got, want)
			}
		}
	}
}

func TestEachStepIsOneTasks(t *testing.T) { // P5.7
	for seed := range uint64(60) {
		m, draw := tasks.New(), testrows.Draws(seed)
		var who []int
		for range 2 + draw(10) {
			pauses := draw(5)
			m.Spawn(func(x *tasks.Task) {
				for range pauses {
					who = append(who, x.Id())
					x.Pause()
				}
				who = append(who, x.Id(), x.Id())
			})
		}
		for len(m.Live()) > 0 {
			live, ahead := m.Live(), len(who)
			pick := draw(1000)
			id, ok := m.Step(pick)
			ran := slices.Compact(slices.Clone(who[ahead:]))
			if !ok || id != live[pick%len(live)] || !slices.Equal(ran, []int{id}) {
				t.Fatalf("Step(%d) of %v = %d, %t, and %v went on", pick, live, id, ok, ran)
			}
		}
		m.Close()
	}
}

// alone is what a task of that program does in each of its steps, when there is no other one.
func alone(program string) []string {
	m, n := tasks.New(), &notes{}
	defer m.Close()
	m.Spawn(n.program(program))
	var told []string
	for ok := true; ok; {
		ahead := len(n.text)
		if _, ok = m.Step(0); ok {
			told = append(told, n.text[ahead:])
		}
	}
	return told
}

// program is a function that shares nothing with others.
func (n *notes) program(program string) func(x *tasks.Task) {
	return func(x *tasks.Task) {
		sum := 0
		for i, c := range program {
			sum = sum*7 + i
			switch c {
			case '-':
				x.Pause()
			case '*':
				panic(sum)
			case 'D', 'E', 'F':
				defer n.program(deferred[c])(x)
			default:
				n.put(fmt.Sprint(string(c), sum, " "))
			}
		}
	}
}

func TestATaskDoesWhatItDoesAlone(t *testing.T) { // P5.6
	for seed := range uint64(100) {
		m, draw := tasks.New(), testrows.Draws(seed)
		var all []*notes
		var want [][]string
		for range 2 + draw(8) {
			var program strings.Builder
			for range draw(12) {
				program.WriteByte("ab---DEF*"[draw(9)])
			}
			all = append(all, &notes{})
			m.Spawn(all[len(all)-1].program(program.String()))
			want = append(want, alone(program.String()))
		}
		for len(m.Live()) > 0 {
			ahead := make([]int, len(all))
			for i, n := range all {
				ahead[i] = len(n.text)
			}
			id, _ := m.Step(draw(100))
			for i, n := range all {
				did := n.text[ahead[i]:]
				if i != id-1 && did != "" {
					t.Fatalf("task %d did %q in a step of task %d", i+1, did, id)
				}
				if i == id-1 {
					if did != want[i][0] {
						t.Fatalf("task %d did %q in its step, want %q", id, did, want[i][0])
					}
					want[i] = want[i][1:]
				}
			}
		}
		for i, w := range want {
			if len(w) != 0 {
				t.Fatalf("task %d came to its end ahead of %q", i+1, w)
			}
		}
		m.Close()
	}
}
