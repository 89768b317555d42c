package wait

import (
	"slices"
	"testing"

	"ringhall/api"
)

// moves are the calls that are made in every order: two tasks come, go, look
// and sleep, and events happen.
func moves(p *pair) []func() {
	come := func(t int, alone bool) func() {
		return func() {
			if p.add(t, alone) == api.ErrThere {
				p.out(t)
			}
		}
	}
	return []func(){
		come(1, false), come(1, true), come(2, false), come(2, true),
		func() { p.look(1) },
		func() { p.look(2) },
		func() { p.sleep(1, false) },
		func() { p.sleep(1, true) },
		func() { p.sleep(2, true) },
		func() { p.wake(-1) },
		func() { p.wake(0) },
		func() { p.wake(1) },
	}
}

// Every row of five calls, with what comes of it when events and sleeps follow.
func TestAllShortRows(t *testing.T) {
	const kinds = 12
	for row := range kinds * kinds * kinds * kinds * kinds {
		p := begin(t)
		l := moves(p)
		if len(l) != kinds {
			t.Fatalf("there are %d moves", len(l))
		}
		for left, i := row, 0; i < 5; i++ {
			l[left%kinds]()
			left /= kinds
		}
		p.end(2)
	}
}

// orders of the tasks up to a number.
func orders(n int) [][]int {
	if n == 0 {
		return [][]int{nil}
	}
	var all [][]int
	for _, l := range orders(n - 1) {
		for i := range n {
			all = append(all, slices.Insert(slices.Clone(l), i, n))
		}
	}
	return all
}

// Every order in which six tasks come, by Add or by Sleep, with every number of them woken.
func TestAllOrders(t *testing.T) {
	for i, order := range orders(6) {
		for n := range 7 {
			p := begin(t)
			for place, task := range order {
				if (i+place)%2 == 0 {
					p.is(p.add(task, true), api.OK)
					continue
				}
				p.is(p.look(task), api.OK)
				p.sleeps(task, true, true)
			}
			p.wakes(n, order[:n]...)
			p.row(order[n:]...)
		}
	}
}

// chance is a row of numbers that look as if they came by chance.
type chance uint64

func (c *chance) below(n int) int {
	*c = *c*6364136223846793005 + 1442695040888963407
	return int(uint64(*c)>>33) % n
}

// one of some numbers up to a bound, and at times of bad ones.
func (c *chance) one(n int, bad []int) int {
	if c.below(20) == 0 {
		return bad[c.below(len(bad))]
	}
	return c.below(n)
}

// walk makes one call of a Queue and of its model, with tasks up to a number,
// and with one event in so many calls.
func (p *pair) walk(c *chance, tasks, events int) {
	p.Helper()
	t, alone := c.one(tasks+1, badTasks), c.below(3) > 0
	if c.below(events) == 0 {
		p.wake(c.one(3, badNumbers))
		return
	}
	switch c.below(7) {
	case 0, 1:
		p.add(t, alone)
	case 2:
		p.out(t)
	case 3, 4:
		p.look(t)
	default:
		p.sleep(t, alone)
	}
}

func TestLongWalks(t *testing.T) {
	c := chance(12)
	for _, tasks := range []int{1, 2, 3, 8, 16} {
		for _, events := range []int{2, 3, 5, 10, 40} {
			for range 8 {
				p := begin(t)
				for range 400 {
					p.walk(&c, tasks, events)
				}
				p.end(17)
				p.empty()
			}
		}
	}
}

// A queue that is used for long has as much as it should.
func TestManyRounds(t *testing.T) {
	q := New()
	q.Add(1, true)
	for i := range 1 << 19 {
		n := 2 + i%15
		if e := q.Look(n); e != api.OK {
			t.Fatalf("Look(%d) is %d", n, e)
		}
		if l, e := q.Wake(0); len(l) != 0 || e != api.OK {
			t.Fatalf("Wake(0) is %d, %d", l, e)
		}
		if waits, e := q.Sleep(n, false); waits || e != api.OK {
			t.Fatalf("Sleep(%d) is %t, %d after an event", n, waits, e)
		}
		q.Look(n)
		if waits, e := q.Sleep(n, false); !waits || e != api.OK {
			t.Fatalf("Sleep(%d) is %t, %d with no event", n, waits, e)
		}
		if l, e := q.Wake(0); !slices.Equal(l, []int{n}) || e != api.OK {
			t.Fatalf("Wake(0) is %d, %d, not %d", l, e, n)
		}
	}
	if l := q.List(); !slices.Equal(l, []int{1}) {
		t.Errorf("List is %d", l)
	}
}

// story is of tasks that wait for something that one of the others makes
// happen: places is where each of them is in what it does.
type story struct {
	*testing.T
	q        *Queue
	happened bool
	places   []int
	alone    bool
}

// begins is a story with one that makes it happen, and so many that wait for it.
func begins(t *testing.T, waiters int, alone bool) *story {
	return &story{t, New(), false, make([]int, waiters+1), alone}
}

// Where a task of a story is: it looks, tests, sleeps or is done.
const (
	toLook = iota
	toTest
	toSleep
	asleep
	done
)

// step of a task of a story; the task 0 makes it happen, and then wakes the others.
func (s *story) step(n int) {
	s.Helper()
	switch at := s.places[n]; {
	case n == 0 && at == toLook:
		s.happened = true
		s.places[0] = toTest
	case n == 0 && at == toTest:
		woken, _ := s.q.Wake(len(s.places))
		for _, t := range woken {
			s.places[t] = toLook
		}
		s.places[0] = done
	case at == toLook:
		if e := s.q.Look(n); e != api.OK {
			s.Fatalf("Look(%d) is %d", n, e)
		}
		s.places[n] = toTest
	case at == toTest && s.happened:
		s.places[n] = done
	case at == toTest:
		s.places[n] = toSleep
	case at == toSleep:
		waits, e := s.q.Sleep(n, s.alone)
		if e != api.OK {
			s.Fatalf("Sleep(%d) is %d", n, e)
		}
		s.places[n] = toLook
		if waits {
			s.places[n] = asleep
		}
	}
}

// The protocol of P12.3: in whichever order three tasks take their steps,
// nobody sleeps for ever when what it waits for has happened.
func TestNoWakeIsLost(t *testing.T) {
	const steps = 9
	for _, alone := range bools {
		for row := range 19683 { // 3 to the power of steps
			s := begins(t, 2, alone)
			for left, i := row, 0; i < steps; i++ {
				s.step(left % 3)
				left /= 3
			}
			for range steps {
				for n := range 3 {
					s.step(n)
				}
			}
			for n, at := range s.places {
				if at != done {
					t.Fatalf("in the order %d, the task %d is at %d for ever", row, n, at)
				}
			}
			if l := s.q.List(); len(l) != 0 {
				t.Fatalf("in the order %d, List is %d", row, l)
			}
		}
	}
}
