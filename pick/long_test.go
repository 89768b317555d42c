package pick

import (
	"testing"

	"ringhall/api"
)

// moves are the calls that are made in every order: tasks of all classes come, wait, wake up, go and run.
func moves(p *pair) []func() {
	turn := func(t int) func() {
		return func() {
			if p.block(t) == api.ErrState {
				p.wake(t)
			}
		}
	}
	come := func(t int, add func() api.Errno) func() {
		return func() {
			if add() == api.ErrThere {
				p.leave(t)
			}
		}
	}
	return []func(){
		func() { p.tick() },
		func() { p.tick(); p.tick() },
		turn(1), turn(2), turn(3), turn(4),
		come(2, func() api.Errno { return p.prio(2, 3) }),
		come(3, func() api.Errno { return p.dead(3, 2, 4) }),
		come(4, func() api.Errno { return p.fair(4, 2) }),
		come(5, func() api.Errno { return p.prio(5, 3) }),
	}
}

// start is a pair with two tasks of one priority, one with a deadline and a
// fair one, after so many ticks.
func start(t *testing.T, ticks int) *pair {
	p := begin(t)
	p.prio(1, 3)
	p.prio(2, 3)
	p.dead(3, 1, 6)
	p.fair(4, 1)
	for range ticks {
		p.tick()
	}
	return p
}

// Every row of five calls, with what comes of it in the ticks after them.
func TestAllShortRows(t *testing.T) {
	const kinds = 10
	for _, ticks := range []int{0, 3} {
		for row := range kinds * kinds * kinds * kinds * kinds {
			p := start(t, ticks)
			l := moves(p)
			if len(l) != kinds {
				t.Fatalf("there are %d moves", len(l))
			}
			for left, i := row, 0; i < 5; i++ {
				l[left%kinds]()
				left /= kinds
			}
			p.same()
			for range 8 {
				p.tick()
			}
			p.same()
		}
	}
}

// chance is a row of numbers that look as if they came by chance.
type chance uint64

func (c *chance) below(n int) int {
	*c = *c*6364136223846793005 + 1442695040888963407
	return int(uint64(*c)>>33) % n
}

// one of the numbers from least to most, and at times a bad one.
func (c *chance) one(least, most int, bad []int) int {
	if c.below(20) == 0 {
		return bad[c.below(len(bad))]
	}
	return least + c.below(most-least+1)
}

// come adds a task of any class, mostly one whose rivals are near.
func (p *pair) come(c *chance, t int) {
	p.Helper()
	switch c.below(4) {
	case 0:
		p.fair(t, c.one(1, 4, badWeights))
	case 1:
		p.prio(t, c.one(2, 4, badValues))
	case 2:
		p.prio(t, c.one(0, 7, badValues))
	default:
		period := c.one(1, 30, badTimes)
		p.dead(t, c.one(1, 3, badTimes), period)
	}
}

// walk makes one call of a Pick and of its model, with tasks up to a number;
// the more calm it is, the more ticks there are.
func (p *pair) walk(c *chance, tasks, calm int) {
	p.Helper()
	t := c.one(1, tasks, badNumbers)
	switch c.below(8 + calm) {
	case 0, 1:
		p.come(c, t)
	case 2:
		p.leave(t)
	case 3, 4:
		p.block(t)
	case 5, 6, 7:
		p.wake(t)
	default:
		p.tick()
	}
	p.same()
}

func TestLongWalks(t *testing.T) {
	c := chance(10)
	for _, tasks := range []int{1, 2, 4, 8, 16} {
		for _, calm := range []int{2, 8, 32} {
			for range 12 {
				p := begin(t)
				for range 400 {
					p.walk(&c, tasks, calm)
				}
			}
		}
	}
}

// counts lets ticks pass, and counts them by task.
func counts(k *Pick, ticks int) map[int]int {
	had := map[int]int{}
	for range ticks {
		had[k.Tick()]++
	}
	return had
}

// What tasks with deadlines reserved they have, whoever else is ready; those of
// a fixed priority have all the rest, in equal shares.
func TestSharesOfClasses(t *testing.T) {
	k := New()
	k.Fair(1, 100)
	k.Prio(2, 0)
	k.Prio(3, 0)
	k.Dead(4, 1, 4)
	k.Dead(5, 3, 12)
	had := counts(k, 1200)
	for n, want := range map[int]int{1: 0, 2: 300, 3: 300, 4: 300, 5: 300} {
		if had[n] != want {
			t.Errorf("task %d has %d ticks of 1200, not %d", n, had[n], want)
		}
	}
	// Without those, fair tasks share by their weights what deadlines leave over.
	k.Block(2)
	k.Leave(3)
	k.Fair(6, 50)
	had = counts(k, 1200)
	for n, want := range map[int]int{1: 400, 6: 200, 4: 300, 5: 300} {
		if had[n] != want {
			t.Errorf("task %d has %d ticks of 1200, not %d", n, had[n], want)
		}
	}
}

// Many ticks of one task, and many turns.
func TestManyTicks(t *testing.T) {
	k := New()
	k.Prio(7, 1)
	const many = 1 << 20
	if had := counts(k, many); had[7] != many {
		t.Errorf("the only task has %d ticks of %d", had[7], many)
	}
	// Of 2^20 ticks in a row, the last one is the first of a slice.
	k.Prio(8, 1)
	for i, want := range []int{7, 7, 8, 8, 8, 7} {
		if got := k.Tick(); got != want {
			t.Errorf("the tick %d behind them is charged to %d", i, got)
		}
	}
}
