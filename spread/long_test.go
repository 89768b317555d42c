package spread

import (
	"testing"

	"ringhall/api"
)

// moves are the calls that are made in every order: tasks of all classes come,
// wait, wake up, go, run, and get boosts and masks.
func moves(p *pair) []func() {
	turn := func(t int) func() {
		return func() {
			if p.block(t) == api.ErrState {
				p.wake(t)
			}
		}
	}
	come := func(t int, add func() api.Errno) func() {
		return func() {
			if add() == api.ErrThere {
				p.leave(t)
			}
		}
	}
	rise := func(t, class, v int) func() {
		return func() {
			if p.calm(t) == api.ErrState {
				p.raise(t, class, v)
			}
		}
	}
	return []func(){
		func() { p.tick(0) },
		func() { p.tick(1) },
		func() { p.pin(3, 2); p.pin(1, 1) },
		func() { p.pin(3, 3); p.pin(1, 3); p.pin(2, 2) },
		turn(1), turn(3), turn(4),
		come(2, func() api.Errno { return p.prio(2, 3) }),
		come(4, func() api.Errno { return p.fair(4, 2) }),
		rise(3, CPrio, 3),
		rise(4, CPrio, 3),
		rise(1, CFair, 9),
	}
}

// start is a pair with two processors and tasks of all classes, after so many rounds.
func start(t *testing.T, rounds int) *pair {
	p := begin(t, 2)
	p.prio(1, 3)
	p.prio(2, 3)
	p.dead(3, 1, 2)
	p.fair(4, 1)
	p.fair(5, 2)
	p.rounds(rounds)
	return p
}

// Every row of four calls, with what comes of it in the ticks after them.
func TestAllShortRows(t *testing.T) {
	const kinds = 12
	for _, rounds := range []int{0, 2} {
		for row := range kinds * kinds * kinds * kinds {
			p := start(t, rounds)
			l := moves(p)
			if len(l) != kinds {
				t.Fatalf("there are %d moves", len(l))
			}
			for left, i := row, 0; i < 4; i++ {
				l[left%kinds]()
				left /= kinds
			}
			p.same()
			p.rounds(4)
		}
	}
}

// chance is a row of numbers that look as if they came by chance.
type chance uint64

func (c *chance) below(n int) int {
	*c = *c*6364136223846793005 + 1442695040888963407
	return int(uint64(*c)>>33) % n
}

// one of the numbers from least to most, and at times a bad one.
func (c *chance) one(least, most int, bad []int) int {
	if c.below(20) == 0 {
		return bad[c.below(len(bad))]
	}
	return least + c.below(most-least+1)
}

// kind is a class and a value for Add and Boost, mostly of rivals that are near.
func (c *chance) kind() (int, int) {
	switch c.below(8) {
	case 0, 1, 2:
		return CFair, c.one(1, 4, badWeights)
	case 3, 4, 5:
		return CPrio, c.one(2, 4, badValues)
	case 6:
		return CPrio, c.one(0, 7, badValues)
	}
	return c.one(CFair, CPrio, badClasses), 1 + c.below(7)
}

// come adds a task of any class.
func (p *pair) come(c *chance, t int) {
	p.Helper()
	if c.below(3) > 0 {
		class, v := c.kind()
		p.add(t, class, v)
		return
	}
	period := c.one(1, []int{6, 30}[c.below(2)], badTimes)
	p.dead(t, c.one(1, 3, badTimes), period)
}

// walk makes one call of a Run and of its model, with tasks up to a number; the
// more calm it is, the more ticks there are.
func (p *pair) walk(c *chance, tasks, calm int) {
	p.Helper()
	t := c.one(1, tasks, badNumbers)
	switch c.below(15 + calm) {
	case 0, 1, 2:
		p.come(c, t)
	case 3:
		p.leave(t)
	case 4, 5:
		p.block(t)
	case 6, 7, 8:
		p.wake(t)
	case 9, 10:
		p.pin(t, c.one(1, 1<<p.m.cpus-1, badMasks(p.m.cpus)))
	case 11, 12:
		class, v := c.kind()
		p.raise(t, class, v)
	case 13, 14:
		p.calm(t)
	default:
		p.tick(c.one(0, p.m.cpus-1, badCpus(p.m.cpus)))
	}
	p.same()
}

func TestLongWalks(t *testing.T) {
	c := chance(11)
	for cpus := 1; cpus <= 4; cpus++ {
		for _, tasks := range []int{2, 4, 8, 16} {
			for _, calm := range []int{5, 20, 80} {
				for range 6 {
					p := begin(t, cpus)
					for range 400 {
						p.walk(&c, tasks, calm)
					}
				}
			}
		}
	}
}

// counts lets ticks of all processors pass, and counts them by the task that had them.
func counts(t *testing.T, r *Run, cpus, rounds int) map[int]int {
	t.Helper()
	had := map[int]int{}
	for range rounds {
		for cpu := range cpus {
			n, _ := r.Pick(cpu)
			had[n]++
			if e := r.Tick(cpu); e != api.OK {
				t.Fatalf("Tick(%d) is %d", cpu, e)
			}
		}
	}
	return had
}

// shares checks how many ticks some tasks have in so many rounds.
func shares(t *testing.T, r *Run, cpus, rounds int, want map[int]int) {
	t.Helper()
	had := counts(t, r, cpus, rounds)
	for n, ticks := range want {
		if had[n] != ticks {
			t.Errorf("task %d has %d ticks in %d rounds, not %d", n, had[n], rounds, ticks)
		}
	}
}

// What tasks with deadlines reserved they have, whoever else is ready; those of
// a fixed priority have all the rest, in equal shares.
func TestSharesOfClasses(t *testing.T) {
	r, _ := New(1)
	r.AddDead(4, 1, 4)
	r.AddDead(5, 3, 12)
	r.Add(2, CPrio, 0)
	r.Add(3, CPrio, 0)
	r.Add(1, CFair, 100)
	shares(t, r, 1, 1200, map[int]int{1: 0, 2: 300, 3: 300, 4: 300, 5: 300})
	// Without those, fair tasks share by their weights what deadlines leave over.
	r.Block(2)
	r.Leave(3)
	r.Add(6, CFair, 50)
	shares(t, r, 1, 1200, map[int]int{1: 400, 6: 200, 4: 300, 5: 300})
}

// Three tasks of one priority share two processors; so do fair ones of equal weights.
func TestSharesOfProcessors(t *testing.T) {
	for class := CFair; class <= CPrio; class++ {
		r, _ := New(2)
		for n := 1; n <= 3; n++ {
			r.Add(n, class, 5)
		}
		shares(t, r, 2, 900, map[int]int{0: 0, 1: 600, 2: 600, 3: 600})
		// One that may have one processor only has no more than that.
		r.Pin(1, 1)
		r.Leave(2)
		shares(t, r, 2, 900, map[int]int{0: 0, 1: 900, 3: 900})
	}
}

// No processor is idle while somebody waits who may run there; with a fair task
// for each, none is ever idle.
func TestNoTickIsLost(t *testing.T) {
	for cpus := 1; cpus <= 4; cpus++ {
		r, _ := New(cpus)
		for n := 1; n <= cpus; n++ {
			r.Add(n, CFair, 3*n)
			r.AddDead(n+8, 1, 2+n)
		}
		shares(t, r, cpus, 600, map[int]int{0: 0})
	}
}

// Many ticks, and many turns.
func TestManyTicks(t *testing.T) {
	const many = 1 << 19
	r, _ := New(2)
	for n := 1; n <= 4; n++ {
		r.Add(n, CPrio, 1)
	}
	r.AddDead(5, 1, 2)
	shares(t, r, 2, many, map[int]int{0: 0, 5: many / 2})
	r.Leave(5)
	shares(t, r, 2, many, map[int]int{0: 0, 1: many / 2, 2: many / 2, 3: many / 2, 4: many / 2})
}
