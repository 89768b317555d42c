package wait

import (
	"math"
	"slices"
	"testing"

	"ringhall/api"
)

// event is something that was done to a queue.
type event struct {
	kind string // "look", "sleep" or "wake"
	t    int
}

// model is what a Queue must do: who waits, in order, who of them is an
// exclusive waiter, and all that ever happened, of which it asks again what
// there was since a look.
type model struct {
	row   []int
	alone map[int]bool
	past  []event
}

func inBounds(t int) bool { return 1 <= t && t <= 16 }

func (m *model) add(t int, alone bool) api.Errno {
	switch {
	case !inBounds(t):
		return api.ErrArg
	case slices.Contains(m.row, t):
		return api.ErrThere
	}
	m.row = append(m.row, t)
	m.alone[t] = alone
	return api.OK
}

func (m *model) out(t int) api.Errno {
	if !slices.Contains(m.row, t) {
		return api.ErrNone
	}
	m.row = slices.DeleteFunc(m.row, func(other int) bool { return other == t })
	return api.OK
}

// wake first says who goes, then takes them out, one by one.
func (m *model) wake(n int) ([]int, api.Errno) {
	if n < 0 {
		return nil, api.ErrArg
	}
	m.past = append(m.past, event{"wake", 0})
	var gone []int
	ahead := 0 // exclusive waiters
	for _, t := range m.row {
		if !m.alone[t] || ahead < n {
			gone = append(gone, t)
		}
		if m.alone[t] {
			ahead++
		}
	}
	for _, t := range gone {
		m.out(t)
	}
	return gone, api.OK
}

func (m *model) look(t int) api.Errno {
	switch {
	case !inBounds(t):
		return api.ErrArg
	case slices.Contains(m.row, t):
		return api.ErrThere
	}
	m.past = append(m.past, event{"look", t})
	return api.OK
}

// since the last look of a task: was there an event? false, false if there is no look, or one that has ended.
func (m *model) since(t int) (woken, looks bool) {
	for _, e := range slices.Backward(m.past) {
		switch e {
		case event{"sleep", t}:
			return false, false
		case event{"look", t}:
			return woken, true
		case event{"wake", 0}:
			woken = true
		}
	}
	return false, false
}

func (m *model) sleep(t int, alone bool) (bool, api.Errno) {
	woken, looks := m.since(t)
	switch {
	case !looks:
		return false, api.ErrState
	case slices.Contains(m.row, t):
		return false, api.ErrThere
	}
	m.past = append(m.past, event{"sleep", t})
	if woken {
		return false, api.OK
	}
	return true, m.add(t, alone)
}

// badTasks are the numbers of none: just outside the bounds, far outside, and
// such that come into the bounds when they are cut to fewer bits, or negated.
var badTasks = []int{math.MinInt, math.MinInt + 1, -1 << 32, -17, -16, -1, 0, 17, 18, 32, 257, 1<<32 + 1, 1<<60 + 2, math.MaxInt}

// badNumbers are such of which nobody can be woken.
var badNumbers = []int{math.MinInt, math.MinInt + 1, -1 << 32, -17, -2, -1}

// bools are the ways to wait.
var bools = []bool{false, true}

// pair is a Queue with its model: each call goes to both, and they must agree.
type pair struct {
	*testing.T
	q *Queue
	m *model
}

func begin(t *testing.T) *pair {
	return &pair{t, New(), &model{alone: map[int]bool{}}}
}

func (p *pair) add(t int, alone bool) api.Errno {
	p.Helper()
	got, want := p.q.Add(t, alone), p.m.add(t, alone)
	if got != want {
		p.Fatalf("Add(%d, %t) is %d, not %d", t, alone, got, want)
	}
	p.same()
	return want
}

func (p *pair) out(t int) api.Errno {
	p.Helper()
	got, want := p.q.Out(t), p.m.out(t)
	if got != want {
		p.Fatalf("Out(%d) is %d, not %d", t, got, want)
	}
	p.same()
	return want
}

func (p *pair) wake(n int) ([]int, api.Errno) {
	p.Helper()
	got, e := p.q.Wake(n)
	want, f := p.m.wake(n)
	if !slices.Equal(got, want) || e != f {
		p.Fatalf("Wake(%d) is %d, %d, not %d, %d", n, got, e, want, f)
	}
	p.same()
	return want, f
}

func (p *pair) look(t int) api.Errno {
	p.Helper()
	got, want := p.q.Look(t), p.m.look(t)
	if got != want {
		p.Fatalf("Look(%d) is %d, not %d", t, got, want)
	}
	p.same()
	return want
}

func (p *pair) sleep(t int, alone bool) (bool, api.Errno) {
	p.Helper()
	got, e := p.q.Sleep(t, alone)
	want, f := p.m.sleep(t, alone)
	if got != want || e != f {
		p.Fatalf("Sleep(%d, %t) is %t, %d, not %t, %d", t, alone, got, e, want, f)
	}
	p.same()
	return want, f
}

// same compares who waits, without a change.
func (p *pair) same() {
	p.Helper()
	if got := p.q.List(); !slices.Equal(got, p.m.row) {
		p.Fatalf("List is %d, not %d", got, p.m.row)
	}
}

// rest wakes all, so that it shows who waits how.
func (p *pair) rest() {
	p.Helper()
	for len(p.m.row) > 0 {
		p.wakeAll(0)
		p.wakeAll(1)
	}
}

// looks compares the looks of the tasks up to a number, and ends those of
// tasks that do not wait.
func (p *pair) looks(tasks int) {
	p.Helper()
	for t := range tasks + 1 {
		p.sleep(t, true)
	}
}

// end makes the calls that show what can't be asked without a change, for the
// tasks up to a number: which looks there are, and who waits how.
func (p *pair) end(tasks int) {
	p.Helper()
	p.looks(tasks)
	p.rest()
	p.looks(tasks) // of those who waited, too
}

// wakeAll is a wake that must be one of the right numbers.
func (p *pair) wakeAll(n int) {
	p.Helper()
	if _, err := p.wake(n); err != api.OK {
		p.Fatalf("Wake(%d) is %d", n, err)
	}
}

// row checks the queue against tasks that are written out.
func (p *pair) row(want ...int) {
	p.Helper()
	p.same()
	if got := p.q.List(); !slices.Equal(got, want) {
		p.Fatalf("List is %d, not %d", got, want)
	}
}

// is checks what a call told.
func (p *pair) is(got, want api.Errno) {
	p.Helper()
	if got != want {
		p.Fatalf("the call told %d, not %d", got, want)
	}
}

// wakes checks who is woken.
func (p *pair) wakes(n int, want ...int) {
	p.Helper()
	if got, err := p.wake(n); !slices.Equal(got, want) || err != api.OK {
		p.Fatalf("Wake(%d) is %d, %d, not %d", n, got, err, want)
	}
}

// sleeps checks whether a task that looked waits now.
func (p *pair) sleeps(t int, alone, want bool) {
	p.Helper()
	if got, err := p.sleep(t, alone); got != want || err != api.OK {
		p.Fatalf("Sleep(%d, %t) is %t, %d, not %t", t, alone, got, err, want)
	}
}

// refuses checks that a task can't sleep.
func (p *pair) refuses(t int, want api.Errno) {
	p.Helper()
	for _, alone := range bools {
		if got, err := p.sleep(t, alone); got || err != want {
			p.Fatalf("Sleep(%d, %t) is %t, %d, not %d", t, alone, got, err, want)
		}
	}
}

// empty checks a Queue in which nobody waits, and that nobody looks.
func (p *pair) empty() {
	p.Helper()
	p.row()
	for t := -1; t <= 18; t++ {
		p.is(p.out(t), api.ErrNone)
		p.refuses(t, api.ErrState)
	}
	for _, n := range []int{0, 1, 16, math.MaxInt} {
		p.wakes(n)
	}
}

// fill adds tasks from the number 1 on, with the numbers that are set alone.
func (p *pair) fill(long, alone int) {
	p.Helper()
	for t := 1; t <= long; t++ {
		p.is(p.add(t, alone>>t&1 == 1), api.OK)
	}
}
