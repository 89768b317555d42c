package dead

import (
	"testing"

	"ringhall/api"
)

// moves are the calls that are made in every order: three tasks come, wait, wake up, go and run.
func moves(p *pair) []func() {
	turn := func(t int) func() {
		return func() {
			if p.block(t) == api.ErrState {
				p.wake(t)
			}
		}
	}
	come := func(t, budget, period int) func() {
		return func() {
			if p.add(t, budget, period) == api.ErrThere {
				p.leave(t)
			}
		}
	}
	return []func(){
		func() { p.tick() },
		func() { p.pass() },
		func() { p.tick(); p.tick(); p.tick() },
		turn(1), turn(2), turn(3),
		come(1, 1, 2), come(2, 2, 5), come(3, 3, 3),
	}
}

// start is a pair with three tasks, after so many ticks.
func start(t *testing.T, ticks int) *pair {
	p := begin(t)
	p.add(1, 1, 2)
	p.add(2, 2, 4)
	p.add(3, 2, 5)
	for range ticks {
		p.tick()
	}
	return p
}

// Every row of five calls.
func TestAllShortRows(t *testing.T) {
	const kinds = 9
	for _, ticks := range []int{0, 1, 5} {
		for row := range kinds * kinds * kinds * kinds * kinds {
			p := start(t, ticks)
			l := moves(p)
			if len(l) != kinds {
				t.Fatalf("there are %d moves", len(l))
			}
			for left, i := row, 0; i < 5; i++ {
				l[left%kinds]()
				left /= kinds
			}
			p.same()
		}
	}
}

// chance is a row of numbers that look as if they came by chance.
type chance uint64

func (c *chance) below(n int) int {
	*c = *c*6364136223846793005 + 1442695040888963407
	return int(uint64(*c)>>33) % n
}

// reservation is a budget and a period up to one; at times it is none.
func (c *chance) reservation(most int) (int, int) {
	switch c.below(20) {
	case 0:
		return 1, badTimes[c.below(len(badTimes))]
	case 1:
		return badTimes[c.below(len(badTimes))], 1 + c.below(most)
	}
	period := 1 + c.below(most)
	return 1 + c.below(period), period
}

// walk makes one call of a Dead and of its model, with tasks up to a number and periods up to one.
func (p *pair) walk(c *chance, tasks, most int) {
	p.Helper()
	t := c.below(tasks + 2)
	switch c.below(16) {
	case 0, 1:
		budget, period := c.reservation(most)
		p.add(t, budget, period)
	case 2:
		p.leave(t)
	case 3, 4, 5:
		p.block(t)
	case 6, 7, 8:
		p.wake(t)
	case 9:
		p.pass()
	default:
		p.tick()
	}
	p.same()
}

func TestLongWalks(t *testing.T) {
	c := chance(7)
	for _, tasks := range []int{1, 2, 4, 8, 16} {
		for _, most := range []int{3, 10, 30} {
			for range 10 {
				p := begin(t)
				for range 400 {
					p.walk(&c, tasks, most)
				}
			}
		}
	}
}

// fullSets are reservations that take the whole processor between them.
func fullSets() [][][2]int {
	return [][][2]int{
		{{1, 1}},
		{{30, 30}},
		{{1, 2}, {1, 3}, {1, 6}},
		{{2, 4}, {5, 10}},
		{{1, 2}, {3, 7}, {1, 14}},
		{{1, 3}, {2, 5}, {4, 15}},
		{{7, 28}, {1, 4}, {6, 12}},
		{{1, 16}, {1, 16}, {2, 16}, {4, 16}, {8, 16}},
	}
}

func fill(d *Dead, set [][2]int) {
	for i, r := range set {
		d.Add(1+i, r[0], r[1])
	}
}

// Tasks that are always ready, and together reserved the whole processor, have
// their whole budgets in every period.
func TestFullSets(t *testing.T) {
	for _, set := range fullSets() {
		d := New()
		fill(d, set)
		had := make([]int, len(set))
		for now := 1; now <= 420; now++ {
			n := d.Tick()
			if n == 0 {
				t.Fatalf("of %v, nobody has the tick before %d", set, now)
			}
			had[n-1]++
			for i, r := range set {
				if now%r[1] == 0 && had[i] != now/r[1]*r[0] {
					t.Errorf("of %v, task %d has %d ticks at %d", set, 1+i, had[i], now)
				}
			}
		}
	}
}

// A task that reserved little has little, whoever else is ready.
func TestNobodyHasMoreThanItReserved(t *testing.T) {
	d := New()
	d.Add(1, 2, 10)
	had := 0
	for now := 1; now <= 100; now++ {
		had += d.Tick()
		if now%10 == 0 && had != now/5 {
			t.Errorf("the task has %d ticks at %d", had, now)
		}
	}
}

// However tasks wait and wake up, if all reserved no more than the whole
// processor, each one that is ready has what it has left before its deadline.
func TestNobodyIsLateAfterWaits(t *testing.T) {
	c := chance(77)
	for _, set := range fullSets() {
		for range 40 {
			d := New()
			fill(d, set)
			waits := make([]bool, 1+len(set))
			for range 300 {
				switch n := 1 + c.below(len(set)); {
				case !waits[n] && c.below(3) == 0:
					waits[n] = d.Block(n) == api.OK
				case waits[n]:
					waits[n] = d.Wake(n) != api.OK
				}
				d.Tick()
				late(t, d, waits)
			}
		}
	}
}

// late checks that no task that may run has its deadline behind it.
func late(t *testing.T, d *Dead, waits []bool) {
	t.Helper()
	for n := 1; n < len(waits); n++ {
		_, due, throttled, _ := d.At(n)
		if !waits[n] && !throttled && due <= d.Now() {
			t.Fatalf("task %d has the deadline %d at %d", n, due, d.Now())
		}
	}
}
