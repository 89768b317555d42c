package spread

import (
	"math"
	"slices"
	"testing"

	"ringhall/api"
)

// modelTask is what the document says of a task: what all have, and what those of a class have.
type modelTask struct {
	class int
	ready bool
	cpu   int // on which it runs, or -1
	mask  int

	boost, boostValue int // the class is 0 if it has no boost

	weight, virtual int // of class CFair

	priority int // of class CPrio

	budget, period      int // of class CDead
	remaining, deadline int
	throttled           bool
}

// model is what a Run must hold, in the document's own words, without a lower
// package. line has the tasks by when they were created, woken or removed from
// a processor: the latest one is the last.
type model struct {
	cpus  int
	tasks map[int]*modelTask
	ticks int
	line  []int
}

func newModel(cpus int) *model {
	return &model{cpus: cpus, tasks: map[int]*modelTask{}}
}

func within(n, least, most int) bool {
	return n >= least && n <= most
}

func validClass(class, v int) bool {
	return class == 1 && within(v, 1, 100) || class == 2 && within(v, 0, 7)
}

func (m *model) time() int {
	return m.ticks / m.cpus
}

// behind all others in the line.
func (m *model) behind(t int) {
	m.line = slices.DeleteFunc(m.line, func(other int) bool { return other == t })
	m.line = append(m.line, t)
}

func (m *model) add(t, class, v int) api.Errno {
	if !within(t, 1, 16) || !validClass(class, v) {
		return api.ErrArg
	}
	if m.tasks[t] != nil {
		return api.ErrThere
	}
	x := &modelTask{class: class}
	if class == 1 {
		x.weight = v
		x.virtual, _ = m.minimum()
	} else {
		x.priority = v
	}
	m.create(t, x)
	return api.OK
}

func (m *model) addDead(t, budget, period int) api.Errno {
	if !within(t, 1, 16) || !within(period, 1, 30) || !within(budget, 1, period) {
		return api.ErrArg
	}
	if m.tasks[t] != nil {
		return api.ErrThere
	}
	const whole = 2329089562800 // a multiple of all periods
	sum := whole / period * budget
	for _, x := range m.tasks {
		if x.class == 3 {
			sum += whole / x.period * x.budget
		}
	}
	if sum > m.cpus*whole {
		return api.ErrFull
	}
	m.create(t, &modelTask{class: 3, budget: budget, period: period, remaining: budget, deadline: m.time() + period})
	return api.OK
}

func (m *model) create(t int, x *modelTask) {
	x.ready, x.cpu, x.mask = true, -1, 1<<m.cpus-1
	m.tasks[t] = x
	m.behind(t)
	m.fill()
}

// minimum of the virtual times of all ready fair tasks, if there are any.
func (m *model) minimum() (int, bool) {
	var all []int
	for _, x := range m.tasks {
		if x.class == 1 && x.ready {
			all = append(all, x.virtual)
		}
	}
	if len(all) == 0 {
		return 0, false
	}
	return slices.Min(all), true
}

func (m *model) leave(t int) api.Errno {
	if m.tasks[t] == nil {
		return api.ErrNone
	}
	delete(m.tasks, t)
	m.fill()
	return api.OK
}

func (m *model) block(t int) api.Errno {
	x := m.tasks[t]
	if x == nil {
		return api.ErrNone
	}
	if !x.ready {
		return api.ErrState
	}
	x.ready, x.cpu = false, -1
	m.fill()
	return api.OK
}

func (m *model) wake(t int) api.Errno {
	x := m.tasks[t]
	if x == nil {
		return api.ErrNone
	}
	if x.ready {
		return api.ErrState
	}
	if least, ok := m.minimum(); ok && x.class == 1 {
		x.virtual = max(x.virtual, least)
	}
	if x.class == 3 && !x.throttled {
		ticks := x.deadline - m.time()
		if ticks <= 0 || x.remaining*x.period > x.budget*ticks {
			x.remaining, x.deadline = x.budget, m.time()+x.period
		}
	}
	x.ready = true
	m.behind(t)
	m.fill()
	return api.OK
}

// running is the task on a processor, or 0.
func (m *model) running(cpu int) int {
	for t, x := range m.tasks {
		if x.cpu == cpu {
			return t
		}
	}
	return 0
}

func (m *model) pick(cpu int) (int, api.Errno) {
	if !within(cpu, 0, m.cpus-1) {
		return 0, api.ErrArg
	}
	t := m.running(cpu)
	if t == 0 {
		return 0, api.ErrNone
	}
	return t, api.OK
}

// as is the class by which a task goes first, and its priority if that is CPrio.
func (x *modelTask) as() (int, int) {
	if x.boost != 0 {
		return x.boost, x.boostValue
	}
	return x.class, x.priority
}

// first of some waiting tasks, in ascending order of their numbers.
func (m *model) first(waiting []int) int {
	return slices.MinFunc(waiting, func(s, t int) int {
		x, y := m.tasks[s], m.tasks[t]
		class, priority := x.as()
		otherClass, otherPriority := y.as()
		if class != otherClass {
			return otherClass - class
		}
		switch class {
		case 3:
			return x.deadline - y.deadline
		case 2:
			if priority != otherPriority {
				return otherPriority - priority
			}
			return slices.Index(m.line, s) - slices.Index(m.line, t)
		}
		return x.virtual - y.virtual
	})
}

func (m *model) fill() {
	for cpu := range m.cpus {
		if m.running(cpu) != 0 {
			continue
		}
		var waiting []int
		for t := 1; t <= 16; t++ {
			x := m.tasks[t]
			if x != nil && x.ready && x.cpu < 0 && (!x.throttled || x.boost != 0) && x.mask&(1<<cpu) != 0 {
				waiting = append(waiting, t)
			}
		}
		if len(waiting) > 0 {
			m.tasks[m.first(waiting)].cpu = cpu
		}
	}
}

// remove a task from the processor on which it runs.
func (m *model) remove(t int) {
	m.tasks[t].cpu = -1
	m.behind(t)
}

func (m *model) tick(cpu int) api.Errno {
	if !within(cpu, 0, m.cpus-1) {
		return api.ErrArg
	}
	t := m.running(cpu)
	if x := m.tasks[t]; x != nil && x.class == 1 {
		x.virtual += 1048576 / x.weight
	} else if x != nil && x.class == 3 && !x.throttled {
		x.remaining--
		x.throttled = x.remaining == 0
	}
	m.ticks++
	for _, x := range m.tasks {
		if x.throttled && x.deadline <= m.time() {
			x.throttled, x.remaining = false, x.budget
			x.deadline += x.period
		}
	}
	if t != 0 {
		m.remove(t)
	}
	m.fill()
	return api.OK
}

func (m *model) pin(t, cpus int) api.Errno {
	if cpus <= 0 || cpus >= 1<<m.cpus {
		return api.ErrArg
	}
	x := m.tasks[t]
	if x == nil {
		return api.ErrNone
	}
	x.mask = cpus
	if x.cpu >= 0 && cpus&(1<<x.cpu) == 0 {
		m.remove(t)
	}
	m.fill()
	return api.OK
}

func (m *model) raise(t, class, v int) api.Errno {
	if !validClass(class, v) {
		return api.ErrArg
	}
	x := m.tasks[t]
	if x == nil {
		return api.ErrNone
	}
	x.boost, x.boostValue = class, v
	m.fill()
	return api.OK
}

func (m *model) calm(t int) api.Errno {
	x := m.tasks[t]
	if x == nil {
		return api.ErrNone
	}
	if x.boost == 0 {
		return api.ErrState
	}
	x.boost = 0
	if x.throttled && x.cpu >= 0 {
		m.remove(t)
	}
	m.fill()
	return api.OK
}

func (m *model) all() []int {
	var l []int
	for t := 1; t <= 16; t++ {
		if m.tasks[t] != nil {
			l = append(l, t)
		}
	}
	return l
}

func (m *model) isReady(t int) (bool, api.Errno) {
	if m.tasks[t] == nil {
		return false, api.ErrNone
	}
	return m.tasks[t].ready, api.OK
}

// pair is a Run with its model: each call goes to both, and they must agree.
// Calls are checked at once; what is left behind is compared by same.
type pair struct {
	*testing.T
	r *Run
	m *model
}

func begin(t *testing.T, cpus int) *pair {
	t.Helper()
	r, e := New(cpus)
	if r == nil || e != api.OK {
		t.Fatalf("New(%d) is %v, %d", cpus, r, e)
	}
	return &pair{t, r, newModel(cpus)}
}

func (p *pair) err(what string, n int, got, want api.Errno) api.Errno {
	p.Helper()
	if got != want {
		p.Fatalf("%s(%d) is %d, not %d", what, n, got, want)
	}
	return want
}

func (p *pair) add(t, class, v int) api.Errno {
	p.Helper()
	return p.err("Add", t, p.r.Add(t, class, v), p.m.add(t, class, v))
}

func (p *pair) fair(t, weight int) api.Errno {
	p.Helper()
	return p.add(t, CFair, weight)
}

func (p *pair) prio(t, value int) api.Errno {
	p.Helper()
	return p.add(t, CPrio, value)
}

func (p *pair) dead(t, budget, period int) api.Errno {
	p.Helper()
	return p.err("AddDead", t, p.r.AddDead(t, budget, period), p.m.addDead(t, budget, period))
}

func (p *pair) leave(t int) api.Errno {
	p.Helper()
	return p.err("Leave", t, p.r.Leave(t), p.m.leave(t))
}

func (p *pair) block(t int) api.Errno {
	p.Helper()
	return p.err("Block", t, p.r.Block(t), p.m.block(t))
}

func (p *pair) wake(t int) api.Errno {
	p.Helper()
	return p.err("Wake", t, p.r.Wake(t), p.m.wake(t))
}

func (p *pair) tick(cpu int) api.Errno {
	p.Helper()
	return p.err("Tick", cpu, p.r.Tick(cpu), p.m.tick(cpu))
}

func (p *pair) pin(t, cpus int) api.Errno {
	p.Helper()
	return p.err("Pin", t, p.r.Pin(t, cpus), p.m.pin(t, cpus))
}

func (p *pair) raise(t, class, v int) api.Errno {
	p.Helper()
	return p.err("Boost", t, p.r.Boost(t, class, v), p.m.raise(t, class, v))
}

func (p *pair) calm(t int) api.Errno {
	p.Helper()
	return p.err("Calm", t, p.r.Calm(t), p.m.calm(t))
}

// same compares all that can be asked, without a change.
func (p *pair) same() {
	p.Helper()
	for cpu := -1; cpu <= 5; cpu++ {
		got, e := p.r.Pick(cpu)
		want, f := p.m.pick(cpu)
		if got != want || e != f {
			p.Fatalf("Pick(%d) is %d, %d, not %d, %d", cpu, got, e, want, f)
		}
	}
	if got, want := p.r.Tasks(), p.m.all(); !slices.Equal(got, want) {
		p.Fatalf("Tasks is %d, not %d", got, want)
	}
	for t := -1; t <= 18; t++ {
		got, e := p.r.Ready(t)
		want, f := p.m.isReady(t)
		if got != want || e != f {
			p.Fatalf("Ready(%d) is %t, %d, not %t, %d", t, got, e, want, f)
		}
	}
}

// is checks what a call told.
func (p *pair) is(got, want api.Errno) {
	p.Helper()
	if got != want {
		p.Fatalf("the call told %d, not %d", got, want)
	}
	p.same()
}

// well checks that some calls told nothing wrong.
func (p *pair) well(all ...api.Errno) {
	p.Helper()
	for _, got := range all {
		p.is(got, api.OK)
	}
}

// on checks who runs on each processor; 0 is nobody.
func (p *pair) on(row ...int) {
	p.Helper()
	p.same()
	if len(row) != p.m.cpus {
		p.Fatalf("there are %d processors, not %d", p.m.cpus, len(row))
	}
	for cpu, want := range row {
		err := api.OK
		if want == 0 {
			err = api.ErrNone
		}
		if got, e := p.r.Pick(cpu); got != want || e != err {
			p.Fatalf("Pick(%d) is %d, %d, not %d, %d", cpu, got, e, want, err)
		}
	}
}

// ticks checks who runs on a processor after each tick of it in a row; 0 is nobody.
func (p *pair) ticks(cpu int, row ...int) {
	p.Helper()
	for i, want := range row {
		p.well(p.tick(cpu))
		if got, _ := p.r.Pick(cpu); got != want {
			p.Fatalf("after the tick %d of %d, Pick(%d) is %d", i, row, cpu, got)
		}
	}
}

// rounds lets ticks of all processors pass, so that the time goes on by a number.
func (p *pair) rounds(n int) {
	p.Helper()
	for range n {
		for cpu := range p.m.cpus {
			p.well(p.tick(cpu))
		}
	}
}

// badNumbers are no task's: outside the bounds, and such that come into the
// bounds when they are cut to fewer bits, or negated.
var badNumbers = []int{math.MinInt, math.MinInt + 1, -1 << 32, -16, -1, 0, 17, 18, 257, 1<<32 + 1, 1<<60 + 2, math.MaxInt}

// badWeights, badValues, badTimes and badClasses are no weight, no priority, no
// period (nor a budget of any), and no class that Add has, in the same ways.
var (
	badWeights = []int{math.MinInt, math.MinInt + 1, -1 << 32, -100, -1, 0, 101, 257, 1<<32 + 1, 1<<60 + 50, math.MaxInt}
	badValues  = []int{math.MinInt, math.MinInt + 1, -1 << 32, -7, -1, 8, 9, 16, 256, 1 << 32, 1<<60 + 2, math.MaxInt}
	badTimes   = []int{math.MinInt, math.MinInt + 1, -1 << 32, -30, -1, 0, 31, 32, 257, 1<<32 + 1, 1<<60 + 2, math.MaxInt}
	badClasses = []int{math.MinInt, math.MinInt + 1, -2, -1, 0, 3, 4, 257, 258, 1<<32 + 1, 1<<32 + 2, math.MaxInt}
)

// badCpus are no processors of a Run that has so many.
func badCpus(cpus int) []int {
	return []int{math.MinInt, math.MinInt + 1, -1 << 32, -4, -1, cpus, cpus + 1, 4, 5, 63, 64, 256, 1 << 32, 1<<60 + 1, math.MaxInt}
}

// badMasks have no bit, or one of a processor that is not there.
func badMasks(cpus int) []int {
	all := 1<<cpus - 1
	return []int{math.MinInt, math.MinInt + 1, -1 << 32, -2, -1, 0, all + 1, all + 2, 2*all + 1, 16, 17, 32, 257, 1<<32 + 1, 1<<62 + 1, math.MaxInt}
}

// none checks that a number is no task's.
func (p *pair) none(t int) {
	p.Helper()
	p.is(p.leave(t), api.ErrNone)
	p.is(p.block(t), api.ErrNone)
	p.is(p.wake(t), api.ErrNone)
	p.is(p.pin(t, 1), api.ErrNone)
	p.is(p.raise(t, CFair, 1), api.ErrNone)
	p.is(p.raise(t, CPrio, 7), api.ErrNone)
	p.is(p.calm(t), api.ErrNone)
	if ready, e := p.r.Ready(t); ready || e != api.ErrNone {
		p.Fatalf("Ready(%d) is %t, %d", t, ready, e)
	}
	if slices.Contains(p.r.Tasks(), t) {
		p.Fatalf("Tasks has %d", t)
	}
}

// empty checks a Run that has no task.
func (p *pair) empty() {
	p.Helper()
	for _, t := range badNumbers {
		p.none(t)
	}
	for t := range 17 {
		p.none(t)
	}
	if l := p.r.Tasks(); len(l) != 0 {
		p.Fatalf("Tasks is %d", l)
	}
	for range 2 {
		p.on(make([]int, p.m.cpus)...)
		p.rounds(1)
	}
}
