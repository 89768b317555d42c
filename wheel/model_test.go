package wheel

import (
	"maps"
	"math"
	"slices"
	"testing"

	"ringhall/api"
	"ringhall/wrap"
)

// model is what a wheel must hold, in the document's own words.
type model struct {
	now uint32
	at  map[int]uint32
}

// order lists the IDs by expiry time, as it is seen from the current time, and then by ID.
func (m *model) order() []int {
	ids := slices.Sorted(maps.Keys(m.at))
	slices.SortStableFunc(ids, func(a, b int) int {
		return wrap.Far(m.now, m.at[a]) - wrap.Far(m.now, m.at[b])
	})
	return ids
}

func (m *model) add(at uint32, id int) api.Errno {
	if _, there := m.at[id]; there {
		return api.ErrThere
	}
	if wrap.Far(m.now, at) < 0 {
		return api.ErrArg
	}
	m.at[id] = at
	return api.OK
}

func (m *model) out(id int) api.Errno {
	if _, there := m.at[id]; !there {
		return api.ErrNone
	}
	delete(m.at, id)
	return api.OK
}

func (m *model) step(now uint32) ([]int, api.Errno) {
	if wrap.Far(m.now, now) < 0 {
		return nil, api.ErrArg
	}
	var due []int
	for _, id := range m.order() {
		if wrap.Far(m.now, m.at[id]) <= wrap.Far(m.now, now) {
			due = append(due, id)
		}
	}
	for _, id := range due {
		delete(m.at, id)
	}
	m.now = now
	return due, api.OK
}

func (m *model) next() (uint32, api.Errno) {
	if len(m.at) == 0 {
		return 0, api.ErrNone
	}
	return m.at[m.order()[0]], api.OK
}

// pair is a wheel with its model: each call goes to both, and they must agree.
type pair struct {
	*testing.T
	w *Wheel
	m model
}

func begin(t *testing.T, now uint32) *pair {
	t.Helper()
	p := &pair{t, New(now), model{now, map[int]uint32{}}}
	p.next()
	return p
}

func (p *pair) add(at uint32, id int) api.Errno {
	p.Helper()
	got, want := p.w.Add(at, id), p.m.add(at, id)
	if got != want {
		p.Fatalf("at %d, Add(%d, %d) is %d, not %d", p.m.now, at, id, got, want)
	}
	p.next()
	return want
}

func (p *pair) out(id int) api.Errno {
	p.Helper()
	got, want := p.w.Out(id), p.m.out(id)
	if got != want {
		p.Fatalf("at %d, Out(%d) is %d, not %d", p.m.now, id, got, want)
	}
	p.next()
	return want
}

func (p *pair) step(now uint32) ([]int, api.Errno) {
	p.Helper()
	was := p.m.now
	got, e := p.w.Step(now)
	want, f := p.m.step(now)
	if !slices.Equal(got, want) || e != f {
		p.Fatalf("at %d, Step(%d) is %d, %d, not %d, %d", was, now, got, e, want, f)
	}
	p.next()
	return want, f
}

func (p *pair) next() (uint32, api.Errno) {
	p.Helper()
	got, e := p.w.Next()
	want, f := p.m.next()
	if got != want || e != f {
		p.Fatalf("at %d, Next is %d, %d, not %d, %d", p.m.now, got, e, want, f)
	}
	return want, f
}

// drain steps from expiry time to expiry time, a tick short of each one first,
// until no timer is left.
func (p *pair) drain() {
	p.Helper()
	for {
		at, err := p.next()
		if err != api.OK {
			p.empty()
			return
		}
		if at != p.m.now {
			p.step(at - 1)
		}
		p.step(at)
	}
}

// empty checks what a wheel without timers says, wherever its time stands.
func (p *pair) empty() {
	p.Helper()
	for _, id := range []int{math.MinInt, -1, 0, 1, 2, 3, math.MaxInt} {
		if p.out(id) != api.ErrNone {
			p.Fatalf("the timer %d is there", id)
		}
	}
	for _, past := range []uint32{p.m.now - 1, p.m.now + 1<<31} {
		if _, err := p.step(past); err != api.ErrArg {
			p.Fatalf("at %d, Step(%d) is %d", p.m.now, past, err)
		}
	}
	if due, err := p.step(p.m.now); len(due) != 0 || err != api.OK {
		p.Fatalf("at %d, a Step to it is %d, %d", p.m.now, due, err)
	}
}
