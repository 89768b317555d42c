package wheel

import (
	"testing"

	"ringhall/api"
)

// each calls f with every list of so many numbers below limit.
func each(long, limit int, f func([]int)) {
	list := make([]int, long)
	for {
		f(list)
		i := 0
		for ; i < long && list[i] == limit-1; i++ {
			list[i] = 0
		}
		if i == long {
			return
		}
		list[i]++
	}
}

// Every list of five timers within five ticks, while the counter goes round.
func TestAllShortWheels(t *testing.T) {
	each(5, 5, func(waits []int) {
		for stride := range uint32(6) {
			p := begin(t, 1<<32-2)
			for id, wait := range waits {
				p.add(p.m.now+uint32(wait), id)
			}
			p.step(p.m.now + stride)
			p.drain()
		}
	})
}

func TestOutOfAllShortWheels(t *testing.T) {
	each(5, 4, func(waits []int) {
		for gone := range waits {
			p := begin(t, 1<<31-2)
			for id, wait := range waits {
				p.add(p.m.now+uint32(wait), id)
			}
			p.out(gone)
			p.drain()
		}
	})
}

// chance is a row of numbers that look as if they came by chance.
type chance uint64

func (c *chance) below(n int) int {
	*c = *c*6364136223846793005 + 1442695040888963407
	return int(uint64(*c)>>33) % n
}

// wait is mostly a short distance, at times a long one, a limit or one that is past.
func (c *chance) wait() uint32 {
	switch c.below(12) {
	case 0:
		return uint32(c.below(half))
	case 1:
		return uint32(farthest - c.below(3))
	case 2:
		return uint32(half + c.below(3))
	case 3:
		return -uint32(1 + c.below(20))
	}
	return uint32(c.below(20))
}

// walk does one step with a wheel and with its model.
func (p *pair) walk(c *chance) {
	p.Helper()
	id, to := c.below(25)-5, p.m.now+c.wait()
	switch c.below(6) {
	case 0, 1, 2:
		p.add(to, id)
	case 3:
		p.out(id)
	case 4:
		p.step(to)
	case 5:
		if at, err := p.next(); err == api.OK {
			p.step(at)
		}
	}
}

func TestLongWalks(t *testing.T) {
	c := chance(1)
	for _, now := range corners {
		for range 5 {
			p := begin(t, now)
			for range 1000 {
				p.walk(&c)
			}
			p.drain()
		}
	}
}

// The counter goes round a thousand times, with timers at both ends of what may be.
func TestManyRounds(t *testing.T) {
	for _, now := range corners {
		p := begin(t, now)
		for range 2000 {
			p.add(p.m.now+farthest, 2)
			p.add(p.m.now+1, 1)
			p.step(p.m.now + farthest - 1)
			p.add(p.m.now+1, 0)
			p.add(p.m.now+2, 3)
			p.step(p.m.now + 2)
			p.empty()
		}
	}
}

// A step costs what is due, not the ticks that pass: these are 2^48.
func TestWideSteps(t *testing.T) {
	w := New(0)
	now := uint32(0)
	for range 1 << 17 {
		now += farthest
		if due, err := w.Step(now); len(due) != 0 || err != api.OK {
			t.Fatalf("Step(%d) is %d, %d", now, due, err)
		}
	}
}

// Going through all timers at each call would not come to an end.
func TestManyTimers(t *testing.T) {
	const many = 1 << 18
	start := uint32(1<<32 - many/2)
	w := New(start)
	for id := range many {
		if err := w.Add(start+uint32(many-id), id); err != api.OK {
			t.Fatalf("Add of %d is %d", id, err)
		}
	}
	for id := 0; id < many; id += 2 {
		if err := w.Out(id); err != api.OK {
			t.Fatalf("Out(%d) is %d", id, err)
		}
	}
	for want := many - 1; want > many/2; want -= 2 {
		at, e := w.Next()
		due, f := w.Step(at)
		if at != start+uint32(many-want) || len(due) != 1 || due[0] != want || e != api.OK || f != api.OK {
			t.Fatalf("Next and Step are %d, %d, %d, %d, not %d", at, e, due, f, want)
		}
	}
	due, err := w.Step(start + many)
	if len(due) != many/4 || err != api.OK {
		t.Fatalf("%d are due at last, %d", len(due), err)
	}
	for i, id := range due {
		if want := many/2 - 1 - 2*i; id != want {
			t.Fatalf("number %d is %d, not %d", i, id, want)
		}
	}
}
