package spread

import (
	"math"
	"slices"
	"testing"

	"ringhall/api"
)

func TestNew(t *testing.T) {
	if CFair != 1 || CPrio != 2 || CDead != 3 {
		t.Errorf("the constants are %d, %d and %d", CFair, CPrio, CDead)
	}
	for cpus := 1; cpus <= 4; cpus++ {
		begin(t, cpus).empty()
	}
	for _, cpus := range []int{math.MinInt, math.MinInt + 1, -1 << 32, -4, -1, 0, 5, 6, 257, 1 << 32, 1<<32 + 1, 1<<60 + 2, math.MaxInt} {
		if r, e := New(cpus); r != nil || e != api.ErrArg {
			t.Errorf("New(%d) is %v, %d", cpus, r, e)
		}
	}
}

// A Run that New did not make has no processors, and nothing in it panics.
func TestRunWithoutNew(t *testing.T) {
	var r Run
	calls := []struct {
		got, want api.Errno
	}{
		{r.Tick(0), api.ErrArg},
		{r.AddDead(3, 1, 30), api.ErrFull},
		{r.AddDead(3, 0, 30), api.ErrArg},
		{r.Add(1, CFair, 1), api.OK},
		{r.Add(2, CPrio, 1), api.OK},
		{r.Boost(1, CPrio, 2), api.OK},
		{r.Block(1), api.OK},
		{r.Wake(1), api.OK},
		{r.Calm(1), api.OK},
		{r.Pin(1, 1), api.ErrArg},
		{r.Tick(0), api.ErrArg},
		{r.Leave(1), api.OK},
	}
	for i, c := range calls {
		if c.got != c.want {
			t.Errorf("the call %d is %d, not %d", i, c.got, c.want)
		}
	}
	if n, e := r.Pick(0); n != 0 || e != api.ErrArg {
		t.Errorf("Pick is %d, %d", n, e)
	}
	if l := r.Tasks(); !slices.Equal(l, []int{2}) {
		t.Errorf("Tasks is %d", l)
	}
}

func TestExampleOfTheDocument(t *testing.T) {
	p := begin(t, 2)
	p.well(p.fair(1, 10), p.fair(2, 10), p.fair(3, 10))
	p.on(1, 2)
}

// adders add a task: a fair one, one of a fixed priority, and one with a deadline.
func adders(p *pair) []func(t int) api.Errno {
	return []func(t int) api.Errno{
		func(t int) api.Errno { return p.fair(t, 7) },
		func(t int) api.Errno { return p.prio(t, 4) },
		func(t int) api.Errno { return p.dead(t, 1, 9) },
	}
}

// A new task of any class is ready, whatever its number is, and may run on any processor.
func TestAddOfEveryTask(t *testing.T) {
	for class := range 3 {
		for n := 1; n <= 16; n++ {
			p := begin(t, 1)
			p.well(adders(p)[class](n))
			p.on(n)
			p.is(p.wake(n), api.ErrState)
			p.is(p.calm(n), api.ErrState)
			for cpus := 1; cpus <= 4; cpus++ {
				p = begin(t, cpus)
				want := make([]int, cpus)
				for cpu := range cpus {
					want[cpu] = (n+cpu)%16 + 1
					p.well(adders(p)[class](want[cpu]))
				}
				p.on(want...)
			}
		}
	}
}

// Of each weight: a task has as many ticks for one of a task of weight 1.
func TestWeights(t *testing.T) {
	for weight := 1; weight <= 100; weight++ {
		p := begin(t, 1)
		p.well(p.fair(1, weight), p.fair(2, 1))
		p.on(1)
		p.ticks(0, 2, 1)
		for range weight - 1 {
			p.ticks(0, 1)
		}
		p.ticks(0, 2)
	}
}

func TestPriorities(t *testing.T) {
	for value := range 8 {
		for other := range 8 {
			p := begin(t, 1)
			p.well(p.prio(1, value), p.prio(2, other))
			p.on(1)
			want := 2
			if other < value {
				want = 1
			}
			p.ticks(0, want)
		}
	}
}

// Every budget in every period. The time goes on by one when each processor has had a tick.
func TestBudgets(t *testing.T) {
	for cpus := 1; cpus <= 4; cpus++ {
		for period := 1; period <= 30; period++ {
			for budget := 1; budget <= period; budget++ {
				p := begin(t, cpus)
				p.well(p.dead(1, budget, period))
				for time := range 2*period + 1 {
					want := make([]int, cpus)
					if time%period < budget {
						want[0] = 1
					}
					p.on(want...)
					p.rounds(1)
				}
			}
		}
	}
}

func TestAddOfBadArguments(t *testing.T) {
	for _, there := range []bool{false, true} {
		p := begin(t, 3)
		if there {
			p.well(p.fair(7, 1), p.prio(8, 7), p.dead(9, 1, 30))
		}
		for _, n := range badNumbers {
			for _, add := range adders(p) {
				p.is(add(n), api.ErrArg)
			}
			p.none(n)
		}
		// Bad arguments are told first, whether the task is there or not.
		for _, n := range []int{1, 2, 7, 8, 9, 16} {
			for _, bad := range badWeights {
				p.is(p.add(n, CFair, bad), api.ErrArg)
			}
			for _, bad := range badValues {
				p.is(p.add(n, CPrio, bad), api.ErrArg)
			}
			for _, bad := range badClasses {
				p.is(p.add(n, bad, 1), api.ErrArg)
			}
			for _, bad := range badTimes {
				p.is(p.dead(n, 1, bad), api.ErrArg)
				p.is(p.dead(n, bad, bad), api.ErrArg)
				p.is(p.dead(n, bad, 30), api.ErrArg)
			}
			p.is(p.dead(n, 6, 5), api.ErrArg)
		}
		// Whoever was refused is not there.
		for _, n := range []int{1, 2, 16} {
			p.none(n)
		}
	}
}

// A number that is in use can't be had again, whatever class and state its task has.
func TestAddOfTasksThatAreThere(t *testing.T) {
	there := func(p *pair, n int) {
		t.Helper()
		p.is(p.fair(n, 100), api.ErrThere)
		p.is(p.fair(n, 1), api.ErrThere)
		p.is(p.prio(n, 0), api.ErrThere)
		p.is(p.prio(n, 7), api.ErrThere)
		p.is(p.dead(n, 1, 30), api.ErrThere)
		p.is(p.dead(n, 30, 30), api.ErrThere) // even if there is no room for that
	}
	for class := range 3 {
		for _, n := range []int{1, 2, 16} {
			p := begin(t, 1)
			p.well(adders(p)[class](n))
			there(p, n)
			p.rounds(1) // one with a deadline is throttled now
			there(p, n)
			p.well(p.raise(n, CFair, 1))
			there(p, n)
			p.well(p.block(n))
			there(p, n)
			p.well(p.calm(n))
			p.rounds(1)
			there(p, n)
			p.well(p.wake(n))
			there(p, n)
			p.well(p.leave(n))
			p.none(n)
			p.well(adders(p)[(class+1)%3](n))
			p.on(n)
		}
	}
}

// reserved is so many ticks in each period.
type reserved struct {
	budget, period int
}

// The sum of what tasks with deadlines reserved may be all processors, and not more.
func TestRoom(t *testing.T) {
	for _, c := range []struct {
		cpus int
		fits []reserved
		more reserved
	}{
		{1, []reserved{{30, 30}}, reserved{1, 30}},
		{1, []reserved{{1, 1}}, reserved{1, 30}},
		{1, []reserved{{1, 2}, {1, 3}, {1, 6}}, reserved{1, 30}},
		{1, []reserved{{1, 3}, {1, 3}, {1, 3}}, reserved{1, 30}},
		{1, []reserved{{15, 29}, {13, 27}}, reserved{1, 30}}, // 782/783
		{1, []reserved{{14, 29}}, reserved{14, 27}},          // 784/783
		{2, []reserved{{1, 2}, {2, 3}, {5, 6}}, reserved{1, 30}},
		{2, []reserved{{30, 30}, {15, 29}, {13, 27}}, reserved{1, 30}},
		{2, []reserved{{30, 30}, {14, 29}}, reserved{14, 27}},
		{3, []reserved{{2, 3}, {2, 3}, {2, 3}, {1, 1}}, reserved{1, 30}},
		{4, []reserved{{1, 1}, {1, 1}, {1, 1}, {29, 30}}, reserved{1, 29}},
		{4, []reserved{{1, 1}, {1, 1}, {1, 1}, {29, 30}, {1, 30}}, reserved{1, 30}},
		{4, slices.Repeat([]reserved{{4, 15}}, 15), reserved{1, 30}},
	} {
		p := begin(t, c.cpus)
		for i, u := range c.fits {
			p.well(p.dead(i+1, u.budget, u.period))
		}
		p.is(p.dead(16, c.more.budget, c.more.period), api.ErrFull)
		p.is(p.dead(16, 30, 30), api.ErrFull)
		p.is(p.dead(16, 31, 30), api.ErrArg)
		p.is(p.dead(1, 30, 30), api.ErrThere)
		p.none(16)
		// A task of another class has room all the same.
		p.well(p.fair(16, 100))
	}
}

// All 16 tasks may have deadlines, or some of them, if there is room for these.
func TestRoomForAllTasks(t *testing.T) {
	p := begin(t, 4)
	for n := 1; n <= 16; n++ {
		p.well(p.dead(n, 2, 8))
	}
	p.rounds(20)
	p = begin(t, 1)
	for n := 1; n <= 15; n++ {
		p.well(p.prio(n, n%8))
	}
	p.well(p.dead(16, 30, 30))
	p.on(1)
	p.ticks(0, 16, 16)
}

// Every task with a deadline that is there takes its room, in any state, until it leaves.
func TestRoomOfEveryState(t *testing.T) {
	for _, change := range []func(p *pair){
		func(p *pair) {},
		func(p *pair) { p.well(p.block(1)) },
		func(p *pair) { p.rounds(1) }, // throttled
		func(p *pair) { p.rounds(1); p.well(p.block(1)) },
		func(p *pair) { p.rounds(4) }, // replenished
		func(p *pair) { p.well(p.raise(1, CFair, 1)) },
		func(p *pair) { p.well(p.pin(1, 2)) },
	} {
		p := begin(t, 2)
		p.well(p.dead(1, 1, 3), p.dead(2, 30, 30), p.fair(4, 1), p.prio(5, 1))
		change(p)
		p.is(p.dead(3, 21, 30), api.ErrFull)
		p.well(p.dead(3, 20, 30))
		p.is(p.dead(6, 1, 30), api.ErrFull)
		p.well(p.leave(1))
		p.is(p.dead(6, 11, 30), api.ErrFull)
		p.well(p.dead(6, 10, 30))
		p.is(p.dead(1, 1, 30), api.ErrFull)
	}
}

// A new fair task starts where the ready one is that had the least virtual time.
func TestTimeOfANewFairTask(t *testing.T) {
	p := begin(t, 1)
	p.well(p.fair(1, 1))
	p.ticks(0, 1, 1, 1)
	p.well(p.fair(2, 1))
	p.ticks(0, 2, 1, 2, 1)
}

// The least time of those who are ready, not the one of the first, of the last or of who runs.
func TestTimeOfANewFairTaskAmongMany(t *testing.T) {
	for _, n := range [][3]int{{1, 2, 3}, {1, 3, 2}, {2, 1, 3}, {2, 3, 1}, {3, 1, 2}, {3, 2, 1}} {
		p := begin(t, 1)
		p.well(p.fair(n[0], 1), p.fair(n[1], 1), p.fair(n[2], 1))
		// They come to 5, 3 and 4 ticks: whoever is boosted runs behind the next tick.
		p.well(p.raise(n[0], CPrio, 0))
		p.ticks(0, n[0], n[0], n[0], n[0])
		p.well(p.calm(n[0]), p.raise(n[1], CPrio, 0))
		p.ticks(0, n[1], n[1], n[1])
		p.well(p.calm(n[1]), p.raise(n[2], CPrio, 0))
		p.ticks(0, n[2], n[2], n[2], n[2], n[2])
		p.well(p.calm(n[2]), p.fair(16, 1))
		p.on(n[2])
		p.ticks(0, n[1], 16, n[1], 16, 1, 2, 3, 16, 1)
	}
}

// A blocked task, one of another class, and one that was boosted to this class do
// not count, whatever time they have; a fair one counts that is boosted to another class.
func TestTimeOfANewFairTaskAmongOthers(t *testing.T) {
	// 1 has 4 ticks behind it and is blocked: 2 starts at 0, and has 4 ticks until
	// both are equal.
	p := begin(t, 1)
	p.well(p.fair(1, 1))
	p.ticks(0, 1, 1, 1, 1)
	p.well(p.block(1), p.fair(2, 1))
	p.on(2)
	p.well(p.wake(1))
	p.ticks(0, 2, 2, 2, 1, 2)
	// 1 has no ticks behind it and is blocked: 3 starts where 2 is, with 2 ticks.
	p = begin(t, 1)
	p.well(p.fair(1, 1), p.block(1), p.fair(2, 1))
	p.ticks(0, 2, 2)
	p.well(p.fair(3, 1))
	p.ticks(0, 3, 2, 3, 2)
	// 4 is boosted to the class, and its time counts as 0, but only for itself.
	p = begin(t, 1)
	p.well(p.fair(1, 1))
	p.ticks(0, 1, 1)
	p.well(p.prio(4, 3), p.raise(4, CFair, 1), p.fair(3, 1), p.leave(4))
	p.ticks(0, 3, 1, 3, 1)
	// 1 is boosted to another class, and has 2 ticks behind it.
	p = begin(t, 1)
	p.well(p.fair(1, 1), p.raise(1, CPrio, 3))
	p.ticks(0, 1, 1)
	p.well(p.fair(3, 1), p.calm(1))
	p.ticks(0, 3, 1, 3, 1)
	// With tasks of other classes only, the new one starts at 0.
	p = begin(t, 1)
	p.well(p.fair(1, 1))
	p.ticks(0, 1, 1)
	p.well(p.block(1), p.prio(4, 3), p.fair(3, 1), p.block(4), p.wake(1))
	p.on(3)
	p.ticks(0, 3, 1, 3, 1)
}

// A fair task that wakes up has no credit for the time in which it was blocked,
// and keeps its own time, if that is more.
func TestTimeOfAFairTaskThatWakesUp(t *testing.T) {
	p := begin(t, 1)
	p.well(p.fair(1, 1), p.fair(2, 1), p.block(2))
	p.ticks(0, 1, 1, 1)
	p.well(p.wake(2))
	p.ticks(0, 2, 1, 2, 1)
	// Who has had more than the others is behind them.
	p = begin(t, 1)
	p.well(p.fair(1, 1), p.fair(2, 1), p.block(1))
	p.on(2)
	p.well(p.fair(3, 1))
	p.ticks(0, 3, 2, 3, 2, 3)
	p.well(p.block(2), p.block(3), p.fair(4, 1), p.wake(3), p.wake(2))
	// 4 starts at 0, 3 has 2 ticks and 2 has 3.
	p.ticks(0, 4, 3, 4, 2, 3, 4, 2)
}

// One that wakes up when no other one is ready keeps its time, and does not begin anew.
func TestTimeOfAFairTaskThatWakesUpAlone(t *testing.T) {
	p := begin(t, 1)
	p.well(p.fair(1, 1))
	p.ticks(0, 1, 1, 1)
	p.well(p.block(1), p.wake(1), p.block(1), p.fair(2, 1), p.wake(1))
	p.on(2)
	p.ticks(0, 2, 2, 1, 2, 1)
}

// Who left is nobody, in any state and of any class, and may come again in any class.
func TestLeave(t *testing.T) {
	for class := range 3 {
		for next := range 3 {
			for _, change := range []func(p *pair){
				func(p *pair) {}, // it runs
				func(p *pair) { p.well(p.pin(3, 2)) },
				func(p *pair) { p.well(p.block(3)) },
				func(p *pair) { p.rounds(1) },
				func(p *pair) { p.well(p.raise(3, CPrio, 7)) },
			} {
				p := begin(t, 2)
				p.well(adders(p)[class](3), p.pin(3, 1))
				change(p)
				p.well(p.leave(3))
				p.none(3)
				p.on(0, 0)
				p.rounds(1)
				p.on(0, 0)
				p.well(adders(p)[next](3))
				p.on(3, 0)
				p.is(p.wake(3), api.ErrState)
				p.is(p.calm(3), api.ErrState)
				p.well(p.block(3))
				p.on(0, 0)
				p.well(p.wake(3))
				p.on(3, 0)
			}
		}
	}
}

// What a task had before it left is forgotten: its mask, its boost, its budget, its time.
func TestLeaveForgets(t *testing.T) {
	p := begin(t, 2)
	p.well(p.prio(1, 2), p.pin(1, 2), p.raise(1, CPrio, 7), p.leave(1), p.prio(2, 3), p.prio(3, 3), p.prio(1, 2), p.prio(4, 3))
	p.on(2, 3)
	p.ticks(0, 4)
	p.well(p.block(2), p.block(3))
	p.on(4, 1)
	p.well(p.block(4), p.block(1), p.wake(1))
	p.on(1, 0)
	// A throttled one comes back with a whole budget.
	p = begin(t, 1)
	p.well(p.dead(1, 1, 20))
	p.ticks(0, 0)
	p.well(p.leave(1), p.dead(1, 2, 20))
	p.on(1)
	p.ticks(0, 1, 0)
	// A fair one starts where the others are.
	p = begin(t, 1)
	p.well(p.fair(1, 1))
	p.ticks(0, 1, 1, 1, 1)
	p.well(p.leave(1), p.fair(2, 1))
	p.ticks(0, 2, 2)
	p.well(p.fair(1, 1))
	p.ticks(0, 1, 1, 2, 1, 2)
}

// Others run as soon as a task leaves or is blocked, if it ran.
func TestLeaveAndBlockMakeRoom(t *testing.T) {
	for _, away := range []func(p *pair, n int) api.Errno{(*pair).leave, (*pair).block} {
		p := begin(t, 3)
		for n := 1; n <= 7; n++ {
			p.well(p.prio(n, 3))
		}
		p.on(1, 2, 3)
		p.well(away(p, 2))
		p.on(1, 4, 3)
		p.well(away(p, 5))
		p.on(1, 4, 3)
		p.well(away(p, 3))
		p.on(1, 4, 6)
		p.well(away(p, 1))
		p.on(7, 4, 6)
		p.well(away(p, 4))
		p.on(7, 0, 6)
		p.well(away(p, 7))
		p.on(0, 0, 6)
		p.well(away(p, 6))
		p.on(0, 0, 0)
	}
}

func TestCallsForNobody(t *testing.T) {
	p := begin(t, 2)
	p.well(p.fair(1, 1), p.prio(2, 1), p.dead(3, 1, 2))
	for _, n := range append([]int{4, 15, 16}, badNumbers...) {
		p.none(n)
	}
	p.on(1, 2)
	for n := 1; n <= 3; n++ {
		p.well(p.leave(n))
		p.none(n)
	}
	p.empty()
}

func TestBlockAndWakeErrors(t *testing.T) {
	for class := range 3 {
		p := begin(t, 2)
		p.well(adders(p)[class](6))
		for range 12 {
			p.is(p.wake(6), api.ErrState)
			p.well(p.block(6))
			p.is(p.block(6), api.ErrState)
			p.is(p.block(6), api.ErrState)
			p.on(0, 0)
			p.rounds(1)
			p.on(0, 0)
			p.well(p.wake(6))
			p.is(p.wake(6), api.ErrState)
			p.rounds(1)
		}
	}
}

// A task that wakes up runs at once, if there is an idle processor for it.
func TestWakeFills(t *testing.T) {
	for class := range 3 {
		p := begin(t, 2)
		p.well(adders(p)[class](6), adders(p)[class](7))
		p.on(6, 7)
		p.well(p.block(6))
		p.on(0, 7)
		p.well(p.block(7), p.wake(7))
		p.on(7, 0)
		p.well(p.wake(6))
		p.on(7, 6)
		p.well(p.block(6), p.pin(6, 1), p.wake(6))
		p.on(7, 0)
		p.well(p.pin(7, 2))
		p.on(6, 7)
	}
}

// A throttled task is ready all the same, and waking it changes nothing in what it has left.
func TestBlockOfAThrottledTask(t *testing.T) {
	p := begin(t, 1)
	p.well(p.dead(2, 1, 4))
	p.ticks(0, 0)
	p.is(p.wake(2), api.ErrState)
	p.well(p.block(2))
	p.is(p.block(2), api.ErrState)
	p.well(p.wake(2))
	p.on(0)
	p.ticks(0, 0, 0, 2, 0, 0, 0, 2)
	// It is replenished while it is blocked, and the next period goes on from its
	// deadline: at 12 it has one tick until 16.
	p.well(p.tick(0), p.block(2))
	p.rounds(3)
	p.well(p.wake(2))
	p.on(2)
	p.ticks(0, 0, 0, 0, 2)
	// At 21 it has one until 24, which is more than one in four: it has one until 25.
	p.well(p.tick(0), p.block(2))
	p.rounds(4)
	p.well(p.wake(2))
	p.on(2)
	p.ticks(0, 0, 0, 0, 2)
}

// What a task has left is its own for as long as it is in time for it, by the
// time of all processors.
func TestWakeOfDeadlineTasks(t *testing.T) {
	for cpus := 1; cpus <= 4; cpus++ {
		for slept := range 12 {
			p := begin(t, cpus)
			p.well(p.dead(1, 3, 9))
			p.rounds(1)
			p.well(p.block(1))
			p.rounds(slept)
			p.well(p.wake(1))
			// 2 of 3 ticks are left until 9, which is too much from 4 on.
			left, due := 2, 9
			if time := 1 + slept; time > 3 {
				left, due = 3, time+9
			}
			for time := 1 + slept; time < due+1; time++ {
				want := make([]int, cpus)
				if left > 0 || time == due {
					want[0] = 1
				}
				p.on(want...)
				p.rounds(1)
				left--
			}
		}
	}
}

// The part of a round that has passed is not in the time.
func TestTimeOfPartsOfARound(t *testing.T) {
	for cpus := 1; cpus <= 4; cpus++ {
		for ticks := range 2*cpus + 1 {
			p := begin(t, cpus)
			for range ticks {
				p.well(p.tick(cpus - 1))
			}
			p.well(p.dead(1, 1, 5))
			p.well(p.tick(0)) // it is throttled until the time is 5 more than when it came
			want := make([]int, cpus)
			for range (5+ticks/cpus)*cpus - ticks - 1 {
				p.on(want...)
				p.well(p.tick(cpus - 1))
			}
			want[0] = 1
			p.on(want...)
		}
	}
}

func TestPickErrors(t *testing.T) {
	for cpus := 1; cpus <= 4; cpus++ {
		p := begin(t, cpus)
		for range 2 {
			for _, cpu := range badCpus(cpus) {
				if n, e := p.r.Pick(cpu); n != 0 || e != api.ErrArg {
					t.Errorf("Pick(%d) of %d processors is %d, %d", cpu, cpus, n, e)
				}
			}
			p.well(p.fair(1, 1), p.leave(1), p.fair(2, 1), p.block(2), p.leave(2))
			p.on(make([]int, cpus)...)
			for n := 1; n <= 8; n++ {
				p.well(p.fair(n, n))
			}
			for _, cpu := range badCpus(cpus) {
				p.is(p.tick(cpu), api.ErrArg)
			}
			for n := 1; n <= 8; n++ {
				p.well(p.leave(n))
			}
		}
	}
}

// Ticks of processors that are not there do not count.
func TestTickErrors(t *testing.T) {
	p := begin(t, 2)
	p.well(p.dead(1, 1, 2), p.fair(2, 1))
	for range 10 {
		p.on(1, 2)
		p.is(p.tick(2), api.ErrArg)
		p.well(p.tick(0))
		p.on(0, 2)
		p.is(p.tick(-1), api.ErrArg)
		p.well(p.tick(1), p.tick(1))
		p.on(2, 0)
		p.is(p.tick(4), api.ErrArg)
		p.well(p.tick(1))
		p.on(2, 1)
		p.well(p.block(2), p.block(1), p.wake(1), p.wake(2))
	}
}

// Only who runs on the processor is charged, and removed.
func TestTickOfOneProcessor(t *testing.T) {
	p := begin(t, 2)
	p.well(p.fair(1, 1), p.fair(2, 1))
	for range 3 {
		p.well(p.tick(0))
		p.on(1, 2)
	}
	p.well(p.pin(1, 1), p.pin(2, 1), p.tick(0))
	p.on(2, 0)
	p.well(p.tick(1), p.tick(1))
	p.on(2, 0)
	p.ticks(0, 2, 2, 2, 1)
}

// A task is charged for each tick of its processor, while the time goes on by one with as many ticks as there are processors.
func TestTickOfAnyProcessor(t *testing.T) {
	p := begin(t, 4)
	p.well(p.dead(1, 3, 5))
	for range 3 {
		p.on(1, 0, 0, 0)
		p.well(p.tick(0))
	}
	p.on(0, 0, 0, 0)
	for range 17 {
		p.on(0, 0, 0, 0)
		p.well(p.tick(2))
	}
	p.on(1, 0, 0, 0)
}

// A task that is late is replenished as often as it uses up what it has, each
// time for a period behind the one before, until its deadline is ahead.
func TestTickOfALateTask(t *testing.T) {
	p := begin(t, 1)
	p.well(p.prio(2, 5), p.dead(1, 1, 2), p.raise(1, CFair, 1))
	p.ticks(0, 2, 2, 2, 2, 2)
	p.well(p.calm(1))
	p.on(2)
	p.ticks(0, 1, 1, 1, 1, 1, 1, 1, 2, 1, 2, 1)
}

func TestTasks(t *testing.T) {
	p := begin(t, 2)
	var want []int
	for _, n := range []int{9, 16, 1, 5, 12, 2} {
		p.well(adders(p)[n%3](n))
		want = append(want, n)
		slices.Sort(want)
		if got := p.r.Tasks(); !slices.Equal(got, want) {
			t.Errorf("Tasks is %d, not %d", got, want)
		}
	}
	p.well(p.block(5), p.block(9), p.leave(9), p.leave(1))
	if got := p.r.Tasks(); !slices.Equal(got, []int{2, 5, 12, 16}) {
		t.Errorf("Tasks is %d", got)
	}
	// A list is the caller's own.
	a, b := p.r.Tasks(), p.r.Tasks()
	a = a[:cap(a)]
	for i := range a {
		a[i] = 7
	}
	if !slices.Equal(b, []int{2, 5, 12, 16}) {
		t.Errorf("the other list is %d", b)
	}
	p.same()
}

// Ready tells whether a task is blocked, and not whether it runs, waits or is throttled.
func TestReady(t *testing.T) {
	p := begin(t, 1)
	ready := func(n int, want bool) {
		t.Helper()
		if got, e := p.r.Ready(n); got != want || e != api.OK {
			t.Errorf("Ready(%d) is %t, %d, not %t", n, got, e, want)
		}
	}
	p.well(p.dead(1, 1, 4), p.fair(2, 1), p.prio(3, 1))
	for range 9 {
		for n := 1; n <= 3; n++ {
			ready(n, true)
		}
		p.well(p.block(1))
		ready(1, false)
		p.well(p.block(2), p.block(3))
		p.rounds(1)
		p.well(p.raise(3, CPrio, 1))
		for n := 1; n <= 3; n++ {
			ready(n, false)
			p.well(p.wake(n))
			ready(n, true)
		}
		p.rounds(1)
	}
	for _, n := range append([]int{4, 16}, badNumbers...) {
		if got, e := p.r.Ready(n); got || e != api.ErrNone {
			t.Errorf("Ready(%d) is %t, %d", n, got, e)
		}
	}
}

func TestRunsAreIndependent(t *testing.T) {
	p, q := begin(t, 2), begin(t, 3)
	p.well(p.prio(1, 3), p.prio(2, 3), p.dead(3, 1, 5), p.pin(1, 1))
	p.rounds(1)
	q.empty()
	q.well(q.fair(1, 1), q.dead(2, 2, 3), q.raise(1, CPrio, 3))
	q.rounds(2)
	for range 20 {
		p.well(p.tick(0))
		q.well(q.tick(2))
		p.same()
		p.well(p.tick(1))
		q.same()
	}
}

// An error is told, and nothing else happens.
func TestErrorsChangeNothing(t *testing.T) {
	p := begin(t, 2)
	p.well(p.prio(1, 3), p.prio(2, 3), p.dead(3, 1, 5), p.fair(4, 2), p.fair(5, 1), p.prio(6, 3))
	p.well(p.block(6), p.dead(7, 29, 30), p.block(7), p.fair(8, 1), p.block(8), p.raise(2, CPrio, 5), p.pin(4, 2))
	refused := func() {
		t.Helper()
		for _, n := range []int{0, 17} {
			p.is(p.fair(n, 1), api.ErrArg)
			p.is(p.dead(n, 1, 1), api.ErrArg)
			p.none(n)
		}
		p.none(9)
		p.is(p.fair(9, 101), api.ErrArg)
		p.is(p.prio(9, 8), api.ErrArg)
		p.is(p.dead(9, 3, 2), api.ErrArg)
		p.is(p.dead(9, 60, 30), api.ErrArg)
		p.is(p.dead(9, 30, 30), api.ErrFull)
		for n := 1; n <= 8; n++ {
			p.is(p.fair(n, 50), api.ErrThere)
			p.is(p.prio(n, 7), api.ErrThere)
			p.is(p.dead(n, 1, 1), api.ErrThere)
			p.is(p.pin(n, 0), api.ErrArg)
			p.is(p.pin(n, 4), api.ErrArg)
			p.is(p.raise(n, CPrio, 8), api.ErrArg)
			p.is(p.raise(n, CDead, 1), api.ErrArg)
			if n <= 5 {
				p.is(p.wake(n), api.ErrState)
			} else {
				p.is(p.block(n), api.ErrState)
			}
			if n != 2 {
				p.is(p.calm(n), api.ErrState)
			}
		}
		p.is(p.tick(2), api.ErrArg)
		p.is(p.tick(-1), api.ErrArg)
	}
	for range 20 {
		refused()
		p.rounds(1)
	}
	for n := 1; n <= 5; n++ {
		p.well(p.block(n))
	}
	for n := 6; n <= 8; n++ {
		p.well(p.wake(n))
	}
	p.rounds(20)
}
