package spin

import (
	"math"
	"slices"
	"testing"

	"ringhall/api"
)

// badCpus are the numbers of no processor: just outside the bounds, far
// outside, and such that come into the bounds when they are cut to fewer bits,
// or negated.
var badCpus = []int{math.MinInt, math.MinInt + 1, -1 << 32, -4, -1, 4, 5, 8, 256, 1 << 16, 1<<32 + 1, 1<<60 + 2, math.MaxInt}

// badLines are the same of lines.
var badLines = []int{math.MinInt, math.MinInt + 3, -1 << 32, -32, -31, -1, 32, 33, 64, 256, 1<<16 + 5, 1<<32 + 31, 1<<60 + 2, math.MaxInt}

// lockModel is what a Lock must do: tickets are counted on without an end, and
// only what is told of them wraps around. Who has the smallest one holds the lock.
type lockModel struct {
	next    int
	tickets map[int]int // by processor
}

func isThere(i int) bool { return i == 0 || i == 1 || i == 2 || i == 3 }

func (m *lockModel) take(i int) (uint16, api.Errno) {
	_, has := m.tickets[i]
	switch {
	case !isThere(i):
		return 0, api.ErrArg
	case has:
		return 0, api.ErrThere
	}
	m.tickets[i] = m.next
	m.next++
	return uint16(m.tickets[i] % 65536), api.OK
}

func (m *lockModel) mine(i int) (bool, api.Errno) {
	if !isThere(i) {
		return false, api.ErrArg
	}
	ticket, has := m.tickets[i]
	for _, other := range m.tickets {
		if other < ticket {
			return false, api.OK
		}
	}
	return has, api.OK
}

func (m *lockModel) free(i int) api.Errno {
	holds, err := m.mine(i)
	switch {
	case err != api.OK:
		return err
	case !holds:
		return api.ErrState
	}
	delete(m.tickets, i)
	return api.OK
}

func (m *lockModel) row() []int {
	var l []int
	for i := range m.tickets {
		l = append(l, i)
	}
	slices.SortFunc(l, func(a, b int) int { return m.tickets[a] - m.tickets[b] })
	return l
}

// locked is a Lock with its model: each call goes to both, and they must agree.
type locked struct {
	*testing.T
	l *Lock
	m *lockModel
}

func lockFrom(t *testing.T, first uint16) *locked {
	return &locked{t, New(first), &lockModel{int(first), map[int]int{}}}
}

func (p *locked) take(i int) (uint16, api.Errno) {
	p.Helper()
	got, e := p.l.Take(i)
	want, f := p.m.take(i)
	if got != want || e != f {
		p.Fatalf("Take(%d) is %d, %d, not %d, %d", i, got, e, want, f)
	}
	p.same()
	return want, f
}

func (p *locked) free(i int) api.Errno {
	p.Helper()
	got, want := p.l.Free(i), p.m.free(i)
	if got != want {
		p.Fatalf("Free(%d) is %d, not %d", i, got, want)
	}
	p.same()
	return want
}

// same compares what can be asked without a change.
func (p *locked) same() {
	p.Helper()
	if got, want := p.l.Row(), p.m.row(); !slices.Equal(got, want) {
		p.Fatalf("Row is %d, not %d", got, want)
	}
	for i := -1; i <= 4; i++ {
		got, e := p.l.Mine(i)
		want, f := p.m.mine(i)
		if got != want || e != f {
			p.Fatalf("Mine(%d) is %t, %d, not %t, %d", i, got, e, want, f)
		}
	}
}

// takes checks a ticket that is written out.
func (p *locked) takes(i int, want uint16) {
	p.Helper()
	if got, err := p.take(i); got != want || err != api.OK {
		p.Fatalf("Take(%d) is %d, %d, not %d", i, got, err, want)
	}
}

// refuses checks that a processor gets no ticket.
func (p *locked) refuses(i int, want api.Errno) {
	p.Helper()
	if got, err := p.take(i); got != 0 || err != want {
		p.Fatalf("Take(%d) is %d, %d, not %d", i, got, err, want)
	}
}

// frees checks what Free tells.
func (p *locked) frees(i int, want api.Errno) {
	p.Helper()
	if got := p.free(i); got != want {
		p.Fatalf("Free(%d) is %d, not %d", i, got, want)
	}
}

// row checks who has a ticket, and that nobody but the first one holds the lock.
func (p *locked) row(want ...int) {
	p.Helper()
	p.same()
	if got := p.l.Row(); !slices.Equal(got, want) {
		p.Fatalf("Row is %d, not %d", got, want)
	}
	for i := range 4 {
		is := len(want) > 0 && want[0] == i
		if got, err := p.l.Mine(i); got != is || err != api.OK {
			p.Fatalf("Mine(%d) is %t, %d, not %t", i, got, err, is)
		}
	}
}

// rest frees the lock until nobody has a ticket, and shows which one comes next.
func (p *locked) rest() {
	p.Helper()
	for _, i := range p.m.row() {
		p.frees(i, api.OK)
	}
	p.row()
	for i := range 4 {
		p.frees(i, api.ErrState)
	}
	p.take(3)
	p.frees(3, api.OK)
}

// offModel is what an Off must do, with the stack written out, and with all
// that came in while interrupts were disabled.
type offModel struct {
	on    bool
	stack []bool
	came  []int
}

func (m *offModel) save() api.Errno {
	if len(m.stack) >= 16 {
		return api.ErrFull
	}
	m.stack = append(m.stack, m.on)
	m.on = false
	return api.OK
}

func (m *offModel) back() ([]int, api.Errno) {
	if len(m.stack) == 0 {
		return nil, api.ErrState
	}
	m.on = m.stack[len(m.stack)-1]
	m.stack = m.stack[:len(m.stack)-1]
	if !m.on {
		return nil, api.OK
	}
	var first []int // of each line, the first time that it came
	for i, line := range m.came {
		if slices.Index(m.came, line) == i {
			first = append(first, line)
		}
	}
	m.came = nil
	return first, api.OK
}

func (m *offModel) come(line int) (bool, api.Errno) {
	switch {
	case line < 0 || line > 31:
		return false, api.ErrArg
	case m.on:
		return true, api.OK
	}
	m.came = append(m.came, line)
	return false, api.OK
}

// masked is an Off with its model.
type masked struct {
	*testing.T
	o *Off
	m *offModel
}

func maskOf(t *testing.T) *masked {
	return &masked{t, NewOff(), &offModel{on: true}}
}

func (p *masked) save() api.Errno {
	p.Helper()
	got, want := p.o.Save(), p.m.save()
	if got != want {
		p.Fatalf("Save is %d, not %d", got, want)
	}
	p.same()
	return want
}

func (p *masked) back() ([]int, api.Errno) {
	p.Helper()
	got, e := p.o.Back()
	want, f := p.m.back()
	if !slices.Equal(got, want) || e != f {
		p.Fatalf("Back is %d, %d, not %d, %d", got, e, want, f)
	}
	p.same()
	return want, f
}

func (p *masked) come(line int) (bool, api.Errno) {
	p.Helper()
	got, e := p.o.Come(line)
	want, f := p.m.come(line)
	if got != want || e != f {
		p.Fatalf("Come(%d) is %t, %d, not %t, %d", line, got, e, want, f)
	}
	p.same()
	return want, f
}

// same compares what can be asked without a change.
func (p *masked) same() {
	p.Helper()
	if on, deep := p.o.On(); on != p.m.on || deep != len(p.m.stack) {
		p.Fatalf("On is %t, %d, not %t, %d", on, deep, p.m.on, len(p.m.stack))
	}
}

// is checks the state against values that are written out.
func (p *masked) is(on bool, deep int) {
	p.Helper()
	p.same()
	if is, n := p.o.On(); is != on || n != deep {
		p.Fatalf("On is %t, %d, not %t, %d", is, n, on, deep)
	}
}

// saves disables interrupts a number of times.
func (p *masked) saves(times int) {
	p.Helper()
	for range times {
		if err := p.save(); err != api.OK {
			p.Fatalf("Save is %d", err)
		}
	}
}

// backs checks which lines are delivered.
func (p *masked) backs(want ...int) {
	p.Helper()
	if got, err := p.back(); !slices.Equal(got, want) || err != api.OK {
		p.Fatalf("Back is %d, %d, not %d", got, err, want)
	}
}

// comes checks, for each of some lines, whether it is delivered at once.
func (p *masked) comes(want bool, all ...int) {
	p.Helper()
	for _, line := range all {
		if got, err := p.come(line); got != want || err != api.OK {
			p.Fatalf("Come(%d) is %t, %d, not %t", line, got, err, want)
		}
	}
}

// rest takes all entries from the stack, and shows that nothing is left.
func (p *masked) rest() {
	p.Helper()
	for range len(p.m.stack) {
		p.back()
	}
	p.is(true, 0)
	if l, err := p.back(); len(l) != 0 || err != api.ErrState {
		p.Fatalf("Back is %d, %d", l, err)
	}
	p.saves(1)
	p.backs()
}
