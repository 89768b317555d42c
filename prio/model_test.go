package prio

import (
	"math"
	"slices"
	"testing"

	"ringhall/api"
)

// arrival of a task in the queue of a priority.
type arrival struct{ t, value int }

// model is what a Prio must hold: who is in a queue, with all queues in one
// row, in which those of one priority stand in the order of their queue.
type model struct {
	row []arrival
}

func (m *model) place(t int) int {
	return slices.IndexFunc(m.row, func(a arrival) bool { return a.t == t })
}

func (m *model) put(t, value int) api.Errno {
	switch {
	case t < 1 || t > 16 || value < 0 || value > 7:
		return api.ErrArg
	case m.place(t) >= 0:
		return api.ErrThere
	}
	m.row = append(m.row, arrival{t, value})
	return api.OK
}

func (m *model) out(t int) (int, api.Errno) {
	i := m.place(t)
	if i < 0 {
		return 0, api.ErrNone
	}
	value := m.row[i].value
	m.row = slices.Delete(m.row, i, i+1)
	return value, api.OK
}

func (m *model) first() (int, int, api.Errno) {
	best := arrival{0, -1}
	for _, a := range m.row {
		if a.value > best.value {
			best = a
		}
	}
	if best.t == 0 {
		return 0, 0, api.ErrNone
	}
	return best.t, best.value, api.OK
}

func (m *model) turn(value int) api.Errno {
	if value < 0 || value > 7 {
		return api.ErrArg
	}
	i := slices.IndexFunc(m.row, func(a arrival) bool { return a.value == value })
	if i < 0 {
		return api.ErrNone
	}
	first := m.row[i]
	m.row = append(slices.Delete(m.row, i, i+1), first)
	return api.OK
}

func (m *model) bits() int {
	sum := 0
	for value, bit := range []int{1, 2, 4, 8, 16, 32, 64, 128} {
		if l, _ := m.list(value); len(l) > 0 {
			sum += bit
		}
	}
	return sum
}

func (m *model) list(value int) ([]int, api.Errno) {
	if value < 0 || value > 7 {
		return nil, api.ErrArg
	}
	var l []int
	for _, a := range m.row {
		if a.value == value {
			l = append(l, a.t)
		}
	}
	return l, api.OK
}

// badTasks are the numbers of none: just outside the bounds, far outside, and
// such that come into the bounds when they are cut to fewer bits, or negated.
var badTasks = []int{math.MinInt, math.MinInt + 1, -1 << 32, -16, -1, 0, 17, 18, 32, 257, 1<<32 + 1, 1<<60 + 2, math.MaxInt}

// badValues are no priorities, in the same ways.
var badValues = []int{math.MinInt, math.MinInt + 1, -1 << 32, -7, -1, 8, 9, 16, 64, 256, 1 << 32, 1<<32 + 1, 1<<60 + 2, math.MaxInt}

// pair is a Prio with its model: each call goes to both, and they must agree.
// Calls are checked at once; what is left behind is compared by same.
type pair struct {
	*testing.T
	p *Prio
	m *model
}

func begin(t *testing.T) *pair {
	return &pair{t, New(), &model{}}
}

func (p *pair) put(t, value int) api.Errno {
	p.Helper()
	got, want := p.p.Put(t, value), p.m.put(t, value)
	if got != want {
		p.Fatalf("Put(%d, %d) is %d, not %d", t, value, got, want)
	}
	return want
}

func (p *pair) out(t int) (int, api.Errno) {
	p.Helper()
	got, e := p.p.Out(t)
	want, f := p.m.out(t)
	if got != want || e != f {
		p.Fatalf("Out(%d) is %d, %d, not %d, %d", t, got, e, want, f)
	}
	return want, f
}

func (p *pair) turn(value int) api.Errno {
	p.Helper()
	got, want := p.p.Turn(value), p.m.turn(value)
	if got != want {
		p.Fatalf("Turn(%d) is %d, not %d", value, got, want)
	}
	return want
}

// same compares all that can be asked, without a change.
func (p *pair) same() {
	p.Helper()
	t, value, e := p.p.First()
	wantT, wantValue, f := p.m.first()
	if t != wantT || value != wantValue || e != f {
		p.Fatalf("First is %d, %d, %d, not %d, %d, %d", t, value, e, wantT, wantValue, f)
	}
	if got, want := p.p.Bits(), p.m.bits(); got != want {
		p.Fatalf("Bits is %b, not %b", got, want)
	}
	for value := -1; value <= 8; value++ {
		got, e := p.p.List(value)
		want, f := p.m.list(value)
		if !slices.Equal(got, want) || e != f {
			p.Fatalf("List(%d) is %d, %d, not %d, %d", value, got, e, want, f)
		}
	}
}

// queue checks a queue against tasks that are written out.
func (p *pair) queue(value int, want ...int) {
	p.Helper()
	p.same()
	if got, err := p.p.List(value); !slices.Equal(got, want) || err != api.OK {
		p.Fatalf("List(%d) is %d, %d, not %d", value, got, err, want)
	}
}

// leads checks who is the first one.
func (p *pair) leads(t, value int) {
	p.Helper()
	p.same()
	if gotT, gotValue, err := p.p.First(); gotT != t || gotValue != value || err != api.OK {
		p.Fatalf("First is %d, %d, %d, not %d, %d", gotT, gotValue, err, t, value)
	}
}

// is checks what a call told.
func (p *pair) is(got, want api.Errno) {
	p.Helper()
	if got != want {
		p.Fatalf("the call told %d, not %d", got, want)
	}
	p.same()
}

// leaves checks that a task is in the queue of a priority, and takes it out.
func (p *pair) leaves(t, want int) {
	p.Helper()
	if value, err := p.out(t); value != want || err != api.OK {
		p.Fatalf("Out(%d) is %d, %d, not %d", t, value, err, want)
	}
	p.same()
}

// empty checks a Prio that has nobody.
func (p *pair) empty() {
	p.Helper()
	p.same()
	if t, value, err := p.p.First(); t != 0 || value != 0 || err != api.ErrNone {
		p.Fatalf("First of nobody is %d, %d, %d", t, value, err)
	}
	if bits := p.p.Bits(); bits != 0 {
		p.Fatalf("Bits of nobody is %b", bits)
	}
	for value := range 8 {
		p.queue(value)
		p.is(p.turn(value), api.ErrNone)
	}
	for t := range 18 {
		p.none(t)
	}
}

// none checks that a task is in no queue.
func (p *pair) none(t int) {
	p.Helper()
	if value, err := p.out(t); value != 0 || err != api.ErrNone {
		p.Fatalf("Out(%d) is %d, %d", t, value, err)
	}
	p.same()
}

// fill puts so many tasks into the queue of a priority, from the number 1 on.
func (p *pair) fill(long, value int) {
	p.Helper()
	for t := 1; t <= long; t++ {
		p.is(p.put(t, value), api.OK)
	}
}
