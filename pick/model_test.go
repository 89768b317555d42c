package pick

import (
	"math"
	"testing"

	"ringhall/api"
)

// modelTask is what the document says of a task: what all have, and what those of a class have.
type modelTask struct {
	class int
	ready bool

	weight, time int // of fair shares

	value, place int // of a fixed priority: the smaller place is ahead

	budget, period      int // with a deadline
	remaining, deadline int
	throttled           bool
}

// model is what a Pick must hold, in the document's own words, without a lower
// package. Of each tick it keeps whose it was: 0 is nobody's, and -1 somebody's
// who has left.
type model struct {
	tasks  map[int]*modelTask
	ticks  []int
	places int
}

func newModel() *model {
	return &model{tasks: map[int]*modelTask{}}
}

func within(n, least, most int) bool {
	return n >= least && n <= most
}

func (m *model) enter(t int, valid bool, x modelTask) api.Errno {
	if m.tasks[t] != nil {
		return api.ErrThere
	}
	if !within(t, 1, 16) || !valid {
		return api.ErrArg
	}
	m.tasks[t] = &x
	m.start(&x)
	return api.OK
}

func (m *model) fair(t, weight int) api.Errno {
	return m.enter(t, within(weight, 1, 100), modelTask{class: 1, weight: weight})
}

func (m *model) prio(t, value int) api.Errno {
	return m.enter(t, within(value, 0, 7), modelTask{class: 2, value: value})
}

func (m *model) dead(t, budget, period int) api.Errno {
	x := modelTask{class: 3, budget: budget, period: period, remaining: budget, deadline: len(m.ticks) + period}
	return m.enter(t, within(period, 1, 30) && within(budget, 1, period), x)
}

// start makes a task ready that isn't.
func (m *model) start(x *modelTask) {
	switch x.class {
	case 1:
		if first := m.tasks[m.first(1)]; first != nil {
			x.time = max(x.time, first.time)
		}
	case 2:
		m.append(x)
	case 3:
		ticks := x.deadline - len(m.ticks)
		if !x.throttled && (ticks <= 0 || x.remaining*x.period > x.budget*ticks) {
			x.remaining, x.deadline = x.budget, len(m.ticks)+x.period
		}
	}
	x.ready = true
}

// append a task to the queue of its priority.
func (m *model) append(x *modelTask) {
	m.places++
	x.place = m.places
}

func (m *model) leave(t int) api.Errno {
	if m.tasks[t] == nil {
		return api.ErrNone
	}
	delete(m.tasks, t)
	for i, charged := range m.ticks {
		if charged == t {
			m.ticks[i] = -1
		}
	}
	return api.OK
}

func (m *model) block(t int) api.Errno {
	x := m.tasks[t]
	if x == nil {
		return api.ErrNone
	}
	if !x.ready {
		return api.ErrState
	}
	x.ready = false
	return api.OK
}

func (m *model) wake(t int) api.Errno {
	x := m.tasks[t]
	if x == nil {
		return api.ErrNone
	}
	if x.ready {
		return api.ErrState
	}
	m.start(x)
	return api.OK
}

// precedes tells whether a task of a class goes ahead of another one, apart from their numbers.
func (x *modelTask) precedes(y *modelTask) bool {
	switch x.class {
	case 1:
		return x.time < y.time
	case 2:
		return x.value > y.value || x.value == y.value && x.place < y.place
	}
	return x.deadline < y.deadline
}

// first is the task of a class that goes first, or 0.
func (m *model) first(class int) int {
	first := 0
	for t := 1; t <= 16; t++ {
		x := m.tasks[t]
		if x == nil || x.class != class || !x.ready || x.throttled {
			continue
		}
		if first == 0 || x.precedes(m.tasks[first]) {
			first = t
		}
	}
	return first
}

func (m *model) best() int {
	for class := 3; class >= 1; class-- {
		if t := m.first(class); t != 0 {
			return t
		}
	}
	return 0
}

func (m *model) now() int {
	if len(m.ticks) == 0 {
		return 0
	}
	return max(0, m.ticks[len(m.ticks)-1])
}

func (m *model) mark() bool {
	return m.best() != m.now()
}

// row counts the last ticks that were all charged to a task.
func (m *model) row(t int) int {
	n := 0
	for n < len(m.ticks) && m.ticks[len(m.ticks)-1-n] == t {
		n++
	}
	return n
}

func (m *model) tick() int {
	t := m.best()
	m.ticks = append(m.ticks, t)
	if x := m.tasks[t]; x != nil {
		switch x.class {
		case 1:
			x.time += 1048576 / x.weight
		case 2:
			if m.row(t)%3 == 0 {
				m.append(x)
			}
		case 3:
			x.remaining--
			x.throttled = x.remaining == 0
		}
	}
	for _, x := range m.tasks {
		if x.throttled && x.deadline <= len(m.ticks) {
			x.throttled, x.remaining = false, x.budget
			x.deadline += x.period
		}
	}
	return t
}

// pair is a Pick with its model: each call goes to both, and they must agree.
// Calls are checked at once; what is left behind is compared by same.
type pair struct {
	*testing.T
	k *Pick
	m *model
}

func begin(t *testing.T) *pair {
	return &pair{t, New(), newModel()}
}

func (p *pair) err(what string, n int, got, want api.Errno) api.Errno {
	p.Helper()
	if got != want {
		p.Fatalf("%s(%d) is %d, not %d", what, n, got, want)
	}
	return want
}

func (p *pair) fair(t, weight int) api.Errno {
	p.Helper()
	return p.err("Fair", t, p.k.Fair(t, weight), p.m.fair(t, weight))
}

func (p *pair) prio(t, value int) api.Errno {
	p.Helper()
	return p.err("Prio", t, p.k.Prio(t, value), p.m.prio(t, value))
}

func (p *pair) dead(t, budget, period int) api.Errno {
	p.Helper()
	return p.err("Dead", t, p.k.Dead(t, budget, period), p.m.dead(t, budget, period))
}

func (p *pair) leave(t int) api.Errno {
	p.Helper()
	return p.err("Leave", t, p.k.Leave(t), p.m.leave(t))
}

func (p *pair) block(t int) api.Errno {
	p.Helper()
	return p.err("Block", t, p.k.Block(t), p.m.block(t))
}

func (p *pair) wake(t int) api.Errno {
	p.Helper()
	return p.err("Wake", t, p.k.Wake(t), p.m.wake(t))
}

func (p *pair) tick() int {
	p.Helper()
	got, want := p.k.Tick(), p.m.tick()
	if got != want {
		p.Fatalf("Tick is %d, not %d", got, want)
	}
	return want
}

// same compares all that can be asked, without a change.
func (p *pair) same() {
	p.Helper()
	if got, want := p.k.Best(), p.m.best(); got != want {
		p.Fatalf("Best is %d, not %d", got, want)
	}
	if got, want := p.k.Now(), p.m.now(); got != want {
		p.Fatalf("Now is %d, not %d", got, want)
	}
	if got, want := p.k.Mark(), p.m.mark(); got != want {
		p.Fatalf("Mark is %t, not %t", got, want)
	}
}

// is checks what a call told.
func (p *pair) is(got, want api.Errno) {
	p.Helper()
	if got != want {
		p.Fatalf("the call told %d, not %d", got, want)
	}
	p.same()
}

// well checks that some calls told nothing wrong.
func (p *pair) well(all ...api.Errno) {
	p.Helper()
	for _, got := range all {
		p.is(got, api.OK)
	}
}

// ticks checks who goes in a row of ticks; 0 is nobody.
func (p *pair) ticks(row ...int) {
	p.Helper()
	for i, want := range row {
		p.same()
		if got := p.k.Best(); got != want {
			p.Fatalf("ahead of the tick %d of %d, Best is %d", i, row, got)
		}
		if got := p.tick(); got != want {
			p.Fatalf("the tick %d of %d is charged to %d", i, row, got)
		}
		if got := p.k.Now(); got != want {
			p.Fatalf("after the tick %d of %d, Now is %d", i, row, got)
		}
		p.same()
	}
}

// looks checks Best, Now and Mark.
func (p *pair) looks(best, now int, mark bool) {
	p.Helper()
	p.same()
	if a, b, c := p.k.Best(), p.k.Now(), p.k.Mark(); a != best || b != now || c != mark {
		p.Fatalf("Best, Now and Mark are %d, %d and %t, not %d, %d and %t", a, b, c, best, now, mark)
	}
}

// badNumbers are no task's: outside the bounds, and such that come into the
// bounds when they are cut to fewer bits, or negated.
var badNumbers = []int{math.MinInt, math.MinInt + 1, -1 << 32, -16, -1, 0, 17, 18, 257, 1<<32 + 1, 1<<60 + 2, math.MaxInt}

// badWeights, badValues and badTimes are no weight, no priority and no period (nor a budget of any), in the same ways.
var (
	badWeights = []int{math.MinInt, math.MinInt + 1, -1 << 32, -100, -1, 0, 101, 257, 1<<32 + 1, 1<<60 + 50, math.MaxInt}
	badValues  = []int{math.MinInt, math.MinInt + 1, -1 << 32, -7, -1, 8, 9, 16, 256, 1 << 32, 1<<60 + 2, math.MaxInt}
	badTimes   = []int{math.MinInt, math.MinInt + 1, -1 << 32, -30, -1, 0, 31, 32, 257, 1<<32 + 1, 1<<60 + 2, math.MaxInt}
)

// none checks that a number is no task's.
func (p *pair) none(t int) {
	p.Helper()
	p.is(p.leave(t), api.ErrNone)
	p.is(p.block(t), api.ErrNone)
	p.is(p.wake(t), api.ErrNone)
}

// empty checks a Pick that has no task, and had none in its last tick.
func (p *pair) empty() {
	p.Helper()
	for _, t := range badNumbers {
		p.none(t)
	}
	for t := range 17 {
		p.none(t)
	}
	p.looks(0, 0, false)
	p.ticks(0, 0, 0)
	p.looks(0, 0, false)
}
