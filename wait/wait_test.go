package wait

import (
	"math"
	"slices"
	"testing"

	"ringhall/api"
)

// everybody is a set of all tasks, for fill.
const everybody = 1<<17 - 2

func TestNew(t *testing.T) {
	begin(t).empty()
}

// A Queue that New did not make has nobody in it, and can be used.
func TestQueueWithoutNew(t *testing.T) {
	p := begin(t)
	p.q = new(Queue)
	p.empty()
	p.is(p.add(16, true), api.OK)
	p.is(p.look(1), api.OK)
	p.sleeps(1, false, true)
	p.wakes(1, 16, 1)
}

func TestExampleOfTheDocument(t *testing.T) {
	p := begin(t)
	p.is(p.add(1, true), api.OK)
	p.is(p.add(2, false), api.OK)
	p.is(p.add(3, true), api.OK)
	p.is(p.add(4, true), api.OK)
	p.wakes(1, 1, 2)
	p.row(3, 4)
}

// Every task in both ways, with nobody else there.
func TestAddOfEveryTask(t *testing.T) {
	for n := 1; n <= 16; n++ {
		for _, alone := range bools {
			p := begin(t)
			p.is(p.add(n, alone), api.OK)
			p.row(n)
			if alone {
				p.wakes(0)
				p.row(n)
			}
			p.wakes(1, n)
			p.empty()
			p.is(p.add(n, !alone), api.OK)
			p.is(p.out(n), api.OK)
			p.empty()
		}
	}
}

// Each task goes behind those that are there, whatever the numbers are and
// however they wait.
func TestAddAppends(t *testing.T) {
	order := []int{9, 16, 2, 1, 15, 8, 3, 12, 5, 14, 4, 10, 6, 13, 7, 11}
	for _, every := range []int{1, 2, 3, 16} {
		p := begin(t)
		for i, n := range order {
			p.is(p.add(n, i%every == 0), api.OK)
			p.row(order[:i+1]...)
		}
		p.wakes(16, order...)
	}
}

func TestAddOfBadTasks(t *testing.T) {
	for _, there := range []int{0, 1, 16} {
		p := begin(t)
		p.fill(there, everybody)
		for _, n := range badTasks {
			for _, alone := range bools {
				p.is(p.add(n, alone), api.ErrArg)
			}
		}
		p.wakes(0)
		p.rest()
	}
}

// A task that waits stays at its place, and waits in the way in which it began to.
func TestAddOfTasksThatAreThere(t *testing.T) {
	for first := range 16 {
		p := begin(t)
		p.fill(4, first<<1)
		for n := 1; n <= 4; n++ {
			for _, alone := range bools {
				p.is(p.add(n, alone), api.ErrThere)
			}
		}
		p.row(1, 2, 3, 4)
		p.rest()
	}
	p := begin(t)
	p.fill(2, 1<<1)
	p.is(p.add(1, false), api.ErrThere)
	p.is(p.add(2, true), api.ErrThere)
	p.wakes(0, 2)
	p.wakes(1, 1)
}

// Whoever comes again goes behind all others, and waits as it says then.
func TestAddOfTasksThatWereThere(t *testing.T) {
	p := begin(t)
	p.fill(3, 1<<1|1<<3)
	p.is(p.out(1), api.OK)
	p.is(p.add(1, false), api.OK)
	p.row(2, 3, 1)
	p.wakes(0, 2, 1)
	p.is(p.add(2, true), api.OK)
	p.is(p.add(1, true), api.OK)
	p.row(3, 2, 1)
	p.wakes(0)
	p.wakes(2, 3, 2)
	p.row(1)
}

// From every place of a queue of every length; the others keep their order.
func TestOut(t *testing.T) {
	for long := 1; long <= 16; long++ {
		for n := 1; n <= long; n++ {
			p := begin(t)
			p.fill(long, everybody)
			p.is(p.out(n), api.OK)
			var rest []int
			for other := 1; other <= long; other++ {
				if other != n {
					rest = append(rest, other)
				}
			}
			p.row(rest...)
			p.is(p.out(n), api.ErrNone)
			p.wakes(0)
			p.is(p.add(n, false), api.OK)
			p.row(append(rest, n)...)
			p.wakes(0, n)
			p.wakes(16, rest...)
		}
	}
}

// Nobody else waits in another way when a task has left.
func TestOutKeepsHowOthersWait(t *testing.T) {
	p := begin(t)
	p.fill(4, 1<<2|1<<4)
	p.is(p.out(1), api.OK)
	p.wakes(0, 3)
	p.wakes(1, 2)
	p.wakes(1, 4)
}

func TestOutOfNobody(t *testing.T) {
	for _, there := range []int{0, 5, 16} {
		p := begin(t)
		p.fill(there, everybody)
		for _, n := range badTasks {
			p.is(p.out(n), api.ErrNone)
		}
		for n := there + 1; n <= 16; n++ {
			p.is(p.out(n), api.ErrNone)
		}
		p.wakes(0)
		p.rest()
	}
}

func TestWake(t *testing.T) {
	for _, c := range []struct {
		n           int
		woken, stay []int
	}{
		{0, []int{7, 2, 4}, []int{9, 1, 3, 16}},
		{1, []int{9, 7, 2, 4}, []int{1, 3, 16}},
		{2, []int{9, 7, 1, 2, 4}, []int{3, 16}},
		{3, []int{9, 7, 1, 3, 2, 4}, []int{16}},
		{4, []int{9, 7, 1, 3, 2, 16, 4}, nil},
		{5, []int{9, 7, 1, 3, 2, 16, 4}, nil},
		{math.MaxInt, []int{9, 7, 1, 3, 2, 16, 4}, nil},
	} {
		p := begin(t)
		for _, n := range []int{9, 7, 1, 3, 2, 16, 4} {
			p.is(p.add(n, n == 9 || n == 1 || n == 3 || n == 16), api.OK)
		}
		p.wakes(c.n, c.woken...)
		p.row(c.stay...)
		for _, n := range c.woken {
			p.is(p.out(n), api.ErrNone)
		}
		p.wakes(0) // all who stay are exclusive waiters
		p.row(c.stay...)
	}
}

// Every set of exclusive waiters among up to seven tasks, and every number of them.
func TestWakeOfEverySet(t *testing.T) {
	for long := range 8 {
		for set := range 1 << long {
			for n := range long + 2 {
				p := begin(t)
				p.fill(long, set<<1)
				p.wakeAll(n)
				p.wakeAll(0) // of those who stay, nobody goes without a number
				p.rest()
				p.empty()
			}
		}
	}
}

// The number is that of one event: what it leaves over is not there at the next one.
func TestWakeKeepsNoNumber(t *testing.T) {
	p := begin(t)
	p.wakes(5)
	p.is(p.add(1, true), api.OK)
	p.wakes(0)
	p.wakes(5, 1)
	p.fill(2, everybody)
	p.wakes(0)
	p.row(1, 2)
	p.wakes(1, 1)
	p.wakes(1, 2)
}

// All sixteen tasks, one by one and at once.
func TestWakeOfAll(t *testing.T) {
	for n := range 18 {
		p := begin(t)
		p.fill(16, everybody)
		want := []int{1, 2, 3, 4, 5, 6, 7, 8, 9, 10, 11, 12, 13, 14, 15, 16}
		p.wakes(n, want[:min(n, 16)]...)
		p.row(want[min(n, 16):]...)
	}
	p := begin(t)
	p.fill(16, 0)
	p.wakes(0, 1, 2, 3, 4, 5, 6, 7, 8, 9, 10, 11, 12, 13, 14, 15, 16)
	p.empty()
}

func TestWakeOfBadNumbers(t *testing.T) {
	for _, n := range badNumbers {
		p := begin(t)
		p.fill(3, 1<<1|1<<3)
		if l, err := p.wake(n); len(l) != 0 || err != api.ErrArg {
			t.Errorf("Wake(%d) is %d, %d", n, l, err)
		}
		p.row(1, 2, 3)
		p.wakes(0, 2)
		p.wakes(1, 1)
	}
}

func TestLookOfBadTasks(t *testing.T) {
	for _, there := range []int{0, 16} {
		p := begin(t)
		p.fill(there, everybody)
		for _, n := range badTasks {
			p.is(p.look(n), api.ErrArg)
			p.refuses(n, api.ErrState)
		}
		p.end(17)
		p.empty()
	}
}

// Who waits can't look, and has not begun to look.
func TestLookOfTasksThatAreThere(t *testing.T) {
	for n := 1; n <= 16; n++ {
		p := begin(t)
		p.fill(16, everybody)
		p.is(p.look(n), api.ErrThere)
		p.refuses(n, api.ErrState)
		p.is(p.out(n), api.OK)
		p.refuses(n, api.ErrState)
		p.is(p.look(n), api.OK)
		p.sleeps(n, true, true)
		p.is(p.look(n), api.ErrThere)
	}
}

// Every task that looks, with no event since, waits in the way it says.
func TestSleepOfEveryTask(t *testing.T) {
	for n := 1; n <= 16; n++ {
		for _, alone := range bools {
			p := begin(t)
			p.is(p.look(n), api.OK)
			p.row()
			p.sleeps(n, alone, true)
			p.row(n)
			p.refuses(n, api.ErrState)
			if alone {
				p.wakes(0)
			}
			p.wakes(1, n)
			p.empty()
		}
	}
}

// As by Add: behind all others, whoever looked first.
func TestSleepAppends(t *testing.T) {
	p := begin(t)
	for _, n := range []int{3, 16, 1} {
		p.is(p.look(n), api.OK)
	}
	p.is(p.add(8, true), api.OK)
	p.sleeps(1, true, true)
	p.is(p.add(2, false), api.OK)
	p.sleeps(3, false, true)
	p.sleeps(16, true, true)
	p.row(8, 1, 2, 3, 16)
	p.wakes(2, 8, 1, 2, 3)
	p.row(16)
}

// An event between Look and Sleep keeps the task awake, whatever the event's
// number is, and whoever waits for it.
func TestSleepAfterWake(t *testing.T) {
	for _, there := range []int{0, 1, 15} {
		for _, set := range []int{0, everybody} {
			for _, n := range []int{0, 1, 16, math.MaxInt} {
				p := begin(t)
				p.fill(there, set)
				p.is(p.look(16), api.OK)
				p.wakeAll(n)
				before := p.q.List()
				p.sleeps(16, false, false)
				p.row(before...)
				p.refuses(16, api.ErrState) // that look has ended, too
				p.is(p.look(16), api.OK)
				p.sleeps(16, false, true)
				p.row(append(before, 16)...)
			}
		}
	}
}

// However many events there were, and in whichever way the task would wait.
func TestSleepAfterManyWakes(t *testing.T) {
	for events := range 1 << 10 {
		p := begin(t)
		p.is(p.look(4), api.OK)
		for range events {
			p.q.Wake(0)
			p.m.wake(0)
		}
		p.sleeps(4, events%2 == 0, events == 0)
	}
}

// An event ahead of the look is one that the task sees when it looks.
func TestSleepAfterEarlierWakes(t *testing.T) {
	p := begin(t)
	p.wakes(1)
	p.is(p.look(4), api.OK)
	p.sleeps(4, true, true)
	p.wakes(1, 4)
	p.is(p.look(4), api.OK)
	p.sleeps(4, true, true)
}

// A call that is refused is no event.
func TestSleepAfterBadWakes(t *testing.T) {
	for _, n := range badNumbers {
		p := begin(t)
		p.is(p.look(4), api.OK)
		if _, err := p.wake(n); err != api.ErrArg {
			t.Errorf("Wake(%d) is %d", n, err)
		}
		p.sleeps(4, true, true)
		p.row(4)
	}
}

// The last look counts.
func TestSecondLook(t *testing.T) {
	p := begin(t)
	p.is(p.look(4), api.OK)
	p.wakes(0)
	p.is(p.look(4), api.OK)
	p.sleeps(4, true, true)
	p.refuses(4, api.ErrState)

	p = begin(t)
	p.is(p.look(4), api.OK)
	p.is(p.look(4), api.OK)
	p.wakes(0)
	p.sleeps(4, true, false)
	p.refuses(4, api.ErrState)
}

// Each task has a look of its own.
func TestLooksAreApart(t *testing.T) {
	for early := 1; early <= 16; early++ {
		p := begin(t)
		for n := 1; n <= early; n++ {
			p.is(p.look(n), api.OK)
		}
		p.wakes(1)
		for n := early + 1; n <= 16; n++ {
			p.is(p.look(n), api.OK)
		}
		var late []int
		for n := 1; n <= 16; n++ {
			p.sleeps(n, true, n > early)
			if n > early {
				late = append(late, n)
			}
		}
		p.row(late...)
	}
	p := begin(t)
	p.is(p.look(3), api.OK)
	for n := 1; n <= 16; n++ {
		if n != 3 {
			p.refuses(n, api.ErrState)
		}
	}
	p.sleeps(3, true, true)
}

// Without a look nobody can sleep, whether it waits or not.
func TestSleepWithoutLook(t *testing.T) {
	for _, there := range []int{0, 3, 16} {
		p := begin(t)
		p.fill(there, everybody)
		for n := 1; n <= 16; n++ {
			p.refuses(n, api.ErrState)
		}
		for _, n := range badTasks {
			p.refuses(n, api.ErrState)
		}
		p.wakes(0)
		p.rest()
		p.empty()
	}
}

// A task that looks, and then is added, can't sleep, but still looks.
func TestSleepOfTasksThatAreThere(t *testing.T) {
	for _, alone := range bools {
		p := begin(t)
		p.is(p.look(2), api.OK)
		p.is(p.add(2, alone), api.OK)
		p.is(p.add(5, true), api.OK)
		p.refuses(2, api.ErrThere)
		p.refuses(2, api.ErrThere)
		p.row(2, 5)
		p.is(p.out(2), api.OK)
		p.sleeps(2, !alone, true)
		p.row(5, 2)
		p.refuses(2, api.ErrState)
		p.is(p.out(5), api.OK)
		if alone {
			p.wakes(0, 2)
		} else {
			p.wakes(0)
			p.wakes(1, 2)
		}
	}
}

// At whatever place it waits.
func TestSleepOfTasksAtEveryPlace(t *testing.T) {
	for n := 1; n <= 16; n++ {
		p := begin(t)
		p.is(p.look(n), api.OK)
		p.fill(16, everybody)
		p.refuses(n, api.ErrThere)
		p.wakes(n-1, slices.Clone(p.m.row[:n-1])...)
		p.refuses(n, api.ErrThere)
		p.wakes(1, n)
		p.sleeps(n, true, false)
	}
}

// An event that wakes such a task is one since its look, as any other one is.
func TestSleepOfTasksThatWereWoken(t *testing.T) {
	p := begin(t)
	p.is(p.look(2), api.OK)
	p.is(p.add(2, true), api.OK)
	p.wakes(1, 2)
	p.sleeps(2, true, false)
	p.row()

	p = begin(t)
	p.is(p.look(2), api.OK)
	p.wakes(1)
	p.is(p.add(2, true), api.OK)
	p.refuses(2, api.ErrThere)
	p.is(p.out(2), api.OK)
	p.sleeps(2, true, false)
	p.refuses(2, api.ErrState)
}

// A look that is refused is none: it neither begins anew nor ends one.
func TestRefusedLookChangesNothing(t *testing.T) {
	for _, woken := range bools {
		p := begin(t)
		p.is(p.look(2), api.OK)
		if woken {
			p.wakes(0)
		}
		p.is(p.add(2, true), api.OK)
		p.is(p.look(2), api.ErrThere)
		for _, n := range badTasks {
			p.is(p.look(n), api.ErrArg)
		}
		p.is(p.out(2), api.OK)
		p.sleeps(2, true, !woken)
		p.refuses(2, api.ErrState)
	}
}

// What others do, and calls that are refused, neither end nor spoil a look.
func TestOthersKeepALook(t *testing.T) {
	p := begin(t)
	p.is(p.look(2), api.OK)
	p.is(p.add(3, true), api.OK)
	p.is(p.add(3, true), api.ErrThere)
	p.is(p.out(3), api.OK)
	p.is(p.out(3), api.ErrNone)
	p.is(p.look(4), api.OK)
	p.sleeps(4, true, true)
	p.is(p.out(2), api.ErrNone)
	p.is(p.add(17, true), api.ErrArg)
	p.refuses(1, api.ErrState)
	p.is(p.look(0), api.ErrArg)
	p.row(4)
	p.sleeps(2, true, true)
	p.row(4, 2)
}
