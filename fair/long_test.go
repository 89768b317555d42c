package fair

import (
	"testing"

	"ringhall/api"
)

// moves are the calls that are made in every order: two tasks of one group, one
// of another group and one without a group come, wait, wake up, go and run.
func moves(p *pair) []func() {
	turn := func(t int) func() {
		return func() {
			if p.block(t) == api.ErrState {
				p.wake(t)
			}
		}
	}
	come := func(t, weight, g int) func() {
		return func() {
			if p.add(t, weight, g) == api.ErrThere {
				p.leave(t)
			}
		}
	}
	return []func(){
		func() { p.tick() },
		func() { p.tick(); p.tick(); p.tick() },
		turn(1), turn(2), turn(3), turn(4),
		come(1, 1, 0), come(2, 2, 1), come(3, 1, 1), come(4, 1, 2),
		func() { p.group(1, 3) },
	}
}

// start is a pair with four tasks, two of them in one group, after so many ticks.
func start(t *testing.T, ticks int) *pair {
	p := begin(t)
	p.group(1, 2)
	p.group(2, 1)
	p.add(1, 1, 0)
	p.add(2, 2, 1)
	p.add(3, 1, 1)
	p.add(4, 1, 2)
	for range ticks {
		p.tick()
	}
	return p
}

// Every row of four calls.
func TestAllShortRows(t *testing.T) {
	const long, kinds = 4, 11
	for _, ticks := range []int{0, 3, 7} {
		for row := range kinds * kinds * kinds * kinds {
			p := start(t, ticks)
			l := moves(p)
			if len(l) != kinds {
				t.Fatalf("there are %d moves", len(l))
			}
			for left, i := row, 0; i < long; i++ {
				l[left%kinds]()
				left /= kinds
			}
			p.same()
		}
	}
}

// chance is a row of numbers that look as if they came by chance.
type chance uint64

func (c *chance) below(n int) int {
	*c = *c*6364136223846793005 + 1442695040888963407
	return int(uint64(*c)>>33) % n
}

// weight is mostly a small one, so that equal times are frequent, and at times one that is none.
func (c *chance) weight() int {
	switch c.below(20) {
	case 0:
		return badWeights[c.below(len(badWeights))]
	case 1, 2, 3:
		return 1 + c.below(100)
	}
	return 1 << c.below(3)
}

// walk makes one call of a Fair and of its model, with tasks up to a number and groups up to one.
func (p *pair) walk(c *chance, tasks, groups int) {
	p.Helper()
	t, g := c.below(tasks+2), c.below(groups+2)
	switch c.below(12) {
	case 0:
		p.group(g, c.weight())
	case 1, 2:
		p.add(t, c.weight(), g)
	case 3:
		p.leave(t)
	case 4, 5:
		p.block(t)
	case 6, 7:
		p.wake(t)
	default:
		p.tick()
	}
	p.same()
}

func TestLongWalks(t *testing.T) {
	c := chance(6)
	for _, tasks := range []int{2, 4, 8, 16} {
		for _, groups := range []int{0, 1, 3, 8} {
			for range 10 {
				p := begin(t)
				for range 400 {
					p.walk(&c, tasks, groups)
				}
			}
		}
	}
}

// counts lets ticks pass, and counts them by task.
func counts(f *Fair, ticks int) map[int]int {
	had := map[int]int{}
	for range ticks {
		t, _ := f.Tick()
		had[t]++
	}
	return had
}

// Ticks go to tasks by weights: in a whole number of rounds, exactly.
func TestSharesOfTasks(t *testing.T) {
	f := New()
	// Every weight divides 2^20, so that nothing is rounded.
	weights := map[int]int{1: 1, 5: 2, 9: 4, 16: 64}
	for n, weight := range weights {
		f.Add(n, weight, 0)
	}
	for range 50 {
		had := counts(f, 71)
		for n, weight := range weights {
			if had[n] != weight {
				t.Errorf("task %d has %d ticks of 71, not %d", n, had[n], weight)
			}
		}
	}
}

// A group gets its share, however many tasks it has, and they share it by their weights.
func TestSharesOfGroups(t *testing.T) {
	f := New()
	f.Group(1, 1)
	f.Group(2, 2)
	f.Add(1, 4, 1)
	f.Add(2, 8, 1)
	f.Add(3, 4, 1)
	f.Add(4, 1, 2)
	f.Add(5, 1, 0)
	had := counts(f, 64)
	for n, want := range map[int]int{1: 4, 2: 8, 3: 4, 4: 32, 5: 16} {
		if had[n] != want {
			t.Errorf("task %d has %d ticks of 64, not %d", n, had[n], want)
		}
	}
}

// Who was blocked for long gets no more than its share from then on: not a
// tick for what it missed.
func TestNoCreditForSleep(t *testing.T) {
	for _, g := range []int{0, 1} {
		f := New()
		f.Group(1, 1)
		f.Add(1, 1, 0)
		f.Add(2, 1, g)
		f.Block(2)
		counts(f, 1000)
		f.Wake(2)
		if had := counts(f, 100); had[1] != 50 || had[2] != 50 {
			t.Errorf("in group %d, the ticks after a sleep are %v", g, had)
		}
	}
	f := New()
	f.Group(1, 1)
	f.Add(1, 1, 1)
	f.Add(2, 1, 1)
	f.Block(2)
	counts(f, 1000)
	f.Wake(2)
	if had := counts(f, 100); had[1] != 50 || had[2] != 50 {
		t.Errorf("among mates, the ticks after a sleep are %v", had)
	}
}
