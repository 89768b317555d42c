package prio

import (
	"slices"
	"testing"

	"ringhall/api"
)

// moves are the calls that are made in every order: four tasks come and go at
// three priorities, and the queues turn.
func moves(p *pair) []func() {
	come := func(t, value int) func() {
		return func() {
			if p.put(t, value) == api.ErrThere {
				p.out(t)
			}
		}
	}
	return []func(){
		come(1, 4), come(2, 4), come(3, 4), come(4, 4), come(4, 0), come(2, 7),
		func() { p.turn(4) },
		func() { p.turn(7) },
		func() {
			if t, _, err := p.p.First(); err == api.OK {
				p.out(t)
			}
		},
	}
}

// Every row of five calls, when so many tasks are there.
func TestAllShortRows(t *testing.T) {
	const kinds = 9
	for _, there := range []int{0, 3} {
		for row := range kinds * kinds * kinds * kinds * kinds {
			p := begin(t)
			for n := 1; n <= there; n++ {
				p.put(n, 4)
			}
			l := moves(p)
			if len(l) != kinds {
				t.Fatalf("there are %d moves", len(l))
			}
			for left, i := row, 0; i < 5; i++ {
				l[left%kinds]()
				left /= kinds
			}
			p.same()
		}
	}
}

// orders of the tasks up to a number.
func orders(n int) [][]int {
	if n == 0 {
		return [][]int{nil}
	}
	var all [][]int
	for _, l := range orders(n - 1) {
		for i := range n {
			all = append(all, slices.Insert(slices.Clone(l), i, n))
		}
	}
	return all
}

// Every order in which six tasks come, with every one taken out after every number of turns.
func TestAllOrders(t *testing.T) {
	for _, order := range orders(6) {
		for turns := range 6 {
			for _, gone := range order {
				p := begin(t)
				for _, n := range order {
					p.put(n, 2)
				}
				for range turns {
					p.turn(2)
				}
				p.out(gone)
				want := slices.Concat(order[turns:], order[:turns])
				want = slices.DeleteFunc(want, func(n int) bool { return n == gone })
				if got, err := p.p.List(2); !slices.Equal(got, want) || err != api.OK {
					t.Fatalf("List is %d, %d, not %d", got, err, want)
				}
			}
		}
	}
}

// chance is a row of numbers that look as if they came by chance.
type chance uint64

func (c *chance) below(n int) int {
	*c = *c*6364136223846793005 + 1442695040888963407
	return int(uint64(*c)>>33) % n
}

// one of some numbers up to a bound, and at times of bad ones.
func (c *chance) one(n int, bad []int) int {
	if c.below(20) == 0 {
		return bad[c.below(len(bad))]
	}
	return c.below(n)
}

// walk makes one call of a Prio and of its model, with tasks and priorities up to a number.
func (p *pair) walk(c *chance, tasks, values, leave int) {
	p.Helper()
	t, value := c.one(tasks+1, badTasks), c.one(values, badValues)
	switch n := c.below(10); {
	case n < leave:
		p.out(t)
	case n < 6:
		p.put(t, value)
	default:
		p.turn(value)
	}
	p.same()
}

func TestLongWalks(t *testing.T) {
	c := chance(9)
	for _, tasks := range []int{1, 3, 8, 16} {
		for _, values := range []int{1, 2, 8} {
			for leave := 1; leave <= 4; leave++ {
				for range 4 {
					p := begin(t)
					for range 400 {
						p.walk(&c, tasks, values, leave)
					}
				}
			}
		}
	}
}

// A queue that is used for long has as much as it should.
func TestManyTurns(t *testing.T) {
	p := New()
	p.Put(1, 0)
	for i := range 1 << 20 {
		if err := p.Put(2+i%3, 0); err != api.OK {
			t.Fatalf("Put is %d", err)
		}
		p.Turn(0)
		if value, err := p.Out(2 + i%3); value != 0 || err != api.OK {
			t.Fatalf("Out is %d, %d", value, err)
		}
	}
	if l, err := p.List(0); !slices.Equal(l, []int{1}) || err != api.OK {
		t.Errorf("List is %d, %d", l, err)
	}
}
