package dead

import (
	"math"
	"slices"
	"testing"

	"ringhall/api"
)

// modelTask is what the document says of a task.
type modelTask struct {
	budget, period      int
	remaining, deadline int
	ready, throttled    bool
}

// model is what a Dead must hold, in the document's own words.
type model struct {
	tasks map[int]*modelTask
	time  int
}

func newModel() *model {
	return &model{tasks: map[int]*modelTask{}}
}

func within(n, least, most int) bool {
	return n >= least && n <= most
}

func (m *model) add(t, budget, period int) api.Errno {
	if !within(t, 1, 16) || !within(period, 1, 30) || !within(budget, 1, period) {
		return api.ErrArg
	}
	if m.tasks[t] != nil {
		return api.ErrThere
	}
	m.tasks[t] = &modelTask{budget, period, budget, m.time + period, true, false}
	return api.OK
}

func (m *model) leave(t int) api.Errno {
	if m.tasks[t] == nil {
		return api.ErrNone
	}
	delete(m.tasks, t)
	return api.OK
}

func (m *model) block(t int) api.Errno {
	x := m.tasks[t]
	if x == nil {
		return api.ErrNone
	}
	if !x.ready {
		return api.ErrState
	}
	x.ready = false
	return api.OK
}

func (m *model) wake(t int) api.Errno {
	x := m.tasks[t]
	if x == nil {
		return api.ErrNone
	}
	if x.ready {
		return api.ErrState
	}
	x.ready = true
	if x.throttled {
		return api.OK
	}
	ticks := x.deadline - m.time
	if ticks <= 0 || x.remaining*x.period > x.budget*ticks {
		x.remaining, x.deadline = x.budget, m.time+x.period
	}
	return api.OK
}

// queue lists the tasks that may run, by deadline and then by number.
func (m *model) queue() []int {
	var l []int
	for t := 1; t <= 16; t++ {
		if x := m.tasks[t]; x != nil && x.ready && !x.throttled {
			l = append(l, t)
		}
	}
	slices.SortStableFunc(l, func(a, b int) int { return m.tasks[a].deadline - m.tasks[b].deadline })
	return l
}

func (m *model) pick() (int, api.Errno) {
	l := m.queue()
	if len(l) == 0 {
		return 0, api.ErrNone
	}
	return l[0], api.OK
}

func (m *model) tick() int {
	t, err := m.pick()
	if err == api.OK {
		x := m.tasks[t]
		x.remaining--
		x.throttled = x.remaining == 0
	}
	m.pass()
	return t
}

func (m *model) pass() {
	m.time++
	for _, x := range m.tasks {
		if x.throttled && x.deadline <= m.time {
			x.throttled, x.remaining = false, x.budget
			x.deadline += x.period
		}
	}
}

func (m *model) at(t int) (int, int, bool, api.Errno) {
	x := m.tasks[t]
	if x == nil {
		return 0, 0, false, api.ErrNone
	}
	return x.remaining, x.deadline, x.throttled, api.OK
}

// pair is a Dead with its model: each call goes to both, and they must agree.
// Calls are checked at once; what is left behind is compared by same.
type pair struct {
	*testing.T
	d *Dead
	m *model
}

func begin(t *testing.T) *pair {
	return &pair{t, New(), newModel()}
}

func (p *pair) err(what string, n int, got, want api.Errno) api.Errno {
	p.Helper()
	if got != want {
		p.Fatalf("%s(%d) is %d, not %d", what, n, got, want)
	}
	return want
}

func (p *pair) add(t, budget, period int) api.Errno {
	p.Helper()
	return p.err("Add", t, p.d.Add(t, budget, period), p.m.add(t, budget, period))
}

func (p *pair) leave(t int) api.Errno {
	p.Helper()
	return p.err("Leave", t, p.d.Leave(t), p.m.leave(t))
}

func (p *pair) block(t int) api.Errno {
	p.Helper()
	return p.err("Block", t, p.d.Block(t), p.m.block(t))
}

func (p *pair) wake(t int) api.Errno {
	p.Helper()
	return p.err("Wake", t, p.d.Wake(t), p.m.wake(t))
}

func (p *pair) tick() int {
	p.Helper()
	got, want := p.d.Tick(), p.m.tick()
	if got != want {
		p.Fatalf("Tick is %d, not %d", got, want)
	}
	return want
}

func (p *pair) pass() {
	p.d.Pass()
	p.m.pass()
}

// state is what At tells.
type state struct {
	left, due int
	throttled bool
	err       api.Errno
}

func stateOf(left, due int, throttled bool, err api.Errno) state {
	return state{left, due, throttled, err}
}

// same compares all that can be asked, without a change.
func (p *pair) same() {
	p.Helper()
	if got, want := p.d.Now(), p.m.time; got != want {
		p.Fatalf("Now is %d, not %d", got, want)
	}
	got, e := p.d.Pick()
	want, f := p.m.pick()
	if got != want || e != f {
		p.Fatalf("Pick is %d, %d, not %d, %d", got, e, want, f)
	}
	for t := -1; t <= 18; t++ {
		if got, want := stateOf(p.d.At(t)), stateOf(p.m.at(t)); got != want {
			p.Fatalf("At(%d) is %v, not %v", t, got, want)
		}
	}
}

// at checks what At tells of a task that is there.
func (p *pair) at(t, left, due int, throttled bool) {
	p.Helper()
	p.same()
	if got, want := stateOf(p.d.At(t)), (state{left, due, throttled, api.OK}); got != want {
		p.Fatalf("At(%d) is %v, not %v", t, got, want)
	}
}

// ticks checks who goes in a row of ticks; 0 is nobody.
func (p *pair) ticks(row ...int) {
	p.Helper()
	for i, want := range row {
		now := p.d.Now()
		if got := p.tick(); got != want {
			p.Fatalf("the tick %d of %d is used by %d", i, row, got)
		}
		if p.d.Now() != now+1 {
			p.Fatalf("Now is %d a tick after %d", p.d.Now(), now)
		}
		p.same()
	}
}

// passes lets ticks pass that nobody uses.
func (p *pair) passes(n int) {
	p.Helper()
	for range n {
		now := p.d.Now()
		p.pass()
		if p.d.Now() != now+1 {
			p.Fatalf("Now is %d a tick after %d", p.d.Now(), now)
		}
		p.same()
	}
}

// badNumbers are no task's: outside the bounds, and such that come into the
// bounds when they are cut to fewer bits, or negated.
var badNumbers = []int{math.MinInt, math.MinInt + 1, -1 << 32, -16, -1, 0, 17, 18, 257, 1<<32 + 1, 1<<60 + 2, math.MaxInt}

// badTimes are no period, and no budget in any period.
var badTimes = []int{math.MinInt, math.MinInt + 1, -1 << 32, -30, -1, 0, 31, 32, 257, 1<<32 + 1, 1<<60 + 2, math.MaxInt}

// none checks that a number is no task's.
func (p *pair) none(t int) {
	p.Helper()
	p.err("Leave", t, p.d.Leave(t), api.ErrNone)
	p.err("Block", t, p.d.Block(t), api.ErrNone)
	p.err("Wake", t, p.d.Wake(t), api.ErrNone)
	if got := stateOf(p.d.At(t)); got != (state{err: api.ErrNone}) {
		p.Fatalf("At(%d) is %v", t, got)
	}
}

// empty checks a Dead that has no task.
func (p *pair) empty() {
	p.Helper()
	p.same()
	for _, t := range badNumbers {
		p.none(t)
	}
	for t := range 17 {
		p.none(t)
	}
	p.ticks(0, 0)
	p.passes(2)
}
