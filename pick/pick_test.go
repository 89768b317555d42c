package pick

import (
	"testing"

	"ringhall/api"
)

func TestNew(t *testing.T) {
	if CFair != 1 || CPrio != 2 || CDead != 3 || Slice != 3 {
		t.Errorf("the constants are %d, %d, %d and %d", CFair, CPrio, CDead, Slice)
	}
	begin(t).empty()
}

// A Pick that New did not make is empty, and can be filled.
func TestPickWithoutNew(t *testing.T) {
	p := begin(t)
	p.k = new(Pick)
	p.empty()
	p.well(p.fair(1, 1), p.prio(2, 1), p.dead(3, 1, 2))
	p.ticks(3, 2, 3, 2)
	p.well(p.block(2))
	p.ticks(3, 1)
}

func TestExampleOfTheDocument(t *testing.T) {
	k := New()
	k.Prio(2, 5)
	k.Prio(1, 5)
	for i, want := range []int{2, 2, 2, 1, 1, 1, 2, 2, 2, 1, 1, 1} {
		if got := k.Tick(); got != want {
			t.Errorf("the tick %d is charged to %d", i, got)
		}
	}
}

// adders add a task: a fair one, one of a fixed priority, and one with a deadline.
func adders(p *pair) []func(t int) api.Errno {
	return []func(t int) api.Errno{
		func(t int) api.Errno { return p.fair(t, 7) },
		func(t int) api.Errno { return p.prio(t, 4) },
		func(t int) api.Errno { return p.dead(t, 2, 9) },
	}
}

// A new task of any class is ready, whatever its number is.
func TestAddOfEveryTask(t *testing.T) {
	for class := range 3 {
		for n := 1; n <= 16; n++ {
			p := begin(t)
			p.well(adders(p)[class](n))
			p.looks(n, 0, true)
			p.is(p.wake(n), api.ErrState)
			p.ticks(n, n)
		}
	}
}

// Every weight, every priority, and every budget in every period.
func TestAddOfAllThatMayBe(t *testing.T) {
	for weight := 1; weight <= 100; weight++ {
		p := begin(t)
		p.well(p.fair(1, weight), p.fair(2, 1))
		p.ticks(1, 2)
		for range weight {
			p.ticks(1)
		}
		p.ticks(2, 1)
	}
	for value := range 8 {
		for other := range 8 {
			p := begin(t)
			p.well(p.prio(1, value), p.prio(2, other))
			first := 1
			if other > value {
				first = 2
			}
			p.ticks(first)
		}
	}
	for period := 1; period <= 30; period++ {
		for budget := 1; budget <= period; budget++ {
			p := begin(t)
			p.well(p.dead(1, budget, period))
			for now := range 2 * period {
				want := 1
				if now%period >= budget {
					want = 0
				}
				p.ticks(want)
			}
		}
	}
}

// All numbers may be there at one time, of all classes.
func TestAllNumbers(t *testing.T) {
	for first := range 3 {
		p := begin(t)
		for n := 1; n <= 16; n++ {
			p.well(adders(p)[(first+n)%3](n))
		}
		for n := 1; n <= 16; n++ {
			for _, add := range adders(p) {
				p.is(add(n), api.ErrThere)
			}
		}
		for range 60 {
			p.tick()
			p.same()
		}
		for n := 1; n <= 16; n++ {
			p.well(p.block(n))
		}
		p.ticks(0)
		for n := 1; n <= 16; n++ {
			p.well(p.wake(n))
			p.tick()
			p.well(p.leave(n))
			p.none(n)
		}
		p.empty()
	}
}

func TestAddOfBadArguments(t *testing.T) {
	for _, there := range []bool{false, true} {
		p := begin(t)
		if there {
			p.well(p.fair(7, 1), p.prio(8, 7), p.dead(9, 1, 30))
		}
		for _, n := range badNumbers {
			for _, add := range adders(p) {
				p.is(add(n), api.ErrArg)
			}
			p.is(p.fair(n, 0), api.ErrArg)
			p.is(p.prio(n, 8), api.ErrArg)
			p.is(p.dead(n, 1, 31), api.ErrArg)
			p.none(n)
		}
		for _, n := range []int{1, 2, 16} {
			for _, bad := range badWeights {
				p.is(p.fair(n, bad), api.ErrArg)
			}
			for _, bad := range badValues {
				p.is(p.prio(n, bad), api.ErrArg)
			}
			for _, bad := range badTimes {
				p.is(p.dead(n, 1, bad), api.ErrArg)
				p.is(p.dead(n, bad, bad), api.ErrArg)
				p.is(p.dead(n, bad, 30), api.ErrArg)
			}
			p.is(p.dead(n, 6, 5), api.ErrArg)
			// Whoever was refused is not there, and may come to another class.
			p.none(n)
		}
		p.well(p.dead(1, 1, 1), p.fair(2, 100), p.prio(16, 0))
	}
}

// A number that is in use can't be had again, in its class or in another one,
// whatever state its task is in; that is told ahead of bad arguments.
func TestAddOfTasksThatAreThere(t *testing.T) {
	there := func(p *pair, n int) {
		t.Helper()
		for _, add := range adders(p) {
			p.is(add(n), api.ErrThere)
		}
		for _, bad := range badWeights {
			p.is(p.fair(n, bad), api.ErrThere)
		}
		for _, bad := range badValues {
			p.is(p.prio(n, bad), api.ErrThere)
		}
		for _, bad := range badTimes {
			p.is(p.dead(n, bad, 1), api.ErrThere)
			p.is(p.dead(n, 1, bad), api.ErrThere)
		}
	}
	for class := range 3 {
		for _, n := range []int{1, 2, 16} {
			p := begin(t)
			p.well(adders(p)[class](n))
			there(p, n)
			p.ticks(n, n) // one with a deadline is throttled now
			there(p, n)
			p.well(p.block(n))
			there(p, n)
			p.ticks(0)
			there(p, n)
			p.well(p.wake(n))
			there(p, n)
			p.well(p.leave(n))
			p.none(n)
			p.well(adders(p)[(class+1)%3](n))
			p.ticks(n)
		}
	}
}

// Who left is nobody, in any state and of any class, and may come again in any class.
func TestLeave(t *testing.T) {
	for class := range 3 {
		for next := range 3 {
			for _, blocked := range []bool{false, true} {
				p := begin(t)
				p.well(p.fair(5, 1))
				p.well(adders(p)[class](3))
				if blocked {
					p.well(p.block(3))
				}
				p.well(p.leave(3))
				p.none(3)
				p.looks(5, 0, true)
				p.ticks(5, 5, 5)
				p.well(adders(p)[next](3))
				p.is(p.wake(3), api.ErrState)
				p.well(p.block(3))
				p.ticks(5)
				p.well(p.wake(3))
				p.ticks(3)
			}
		}
	}
}

// What a task had before it left is forgotten.
func TestLeaveForgets(t *testing.T) {
	p := begin(t)
	p.well(p.prio(1, 2), p.prio(2, 5), p.block(1), p.leave(1))
	// The new priority, not the one of the task that was blocked.
	p.well(p.prio(1, 6))
	p.ticks(1)
	p.well(p.block(1), p.wake(1))
	p.ticks(1)
	p.well(p.leave(1), p.leave(2))
	// A throttled one comes back with a whole budget.
	p.well(p.dead(3, 2, 20))
	p.ticks(3, 3, 0)
	p.well(p.leave(3), p.dead(3, 2, 20))
	p.ticks(3, 3, 0)
	p.well(p.leave(3))
	// A fair one starts where its rivals are.
	p.well(p.fair(4, 1), p.fair(5, 1))
	p.ticks(4, 5, 4, 5)
	p.well(p.leave(4))
	p.ticks(5, 5)
	p.well(p.fair(4, 1))
	p.ticks(4, 5, 4, 5)
}

func TestLeaveOfNobody(t *testing.T) {
	p := begin(t)
	p.well(p.fair(1, 1), p.prio(2, 1), p.dead(3, 1, 1))
	for _, n := range append([]int{4, 15, 16}, badNumbers...) {
		p.none(n)
	}
	p.ticks(3, 3)
	p.well(p.leave(3))
	p.none(3)
	p.ticks(2)
	p.well(p.leave(2))
	p.none(2)
	p.ticks(1)
	p.well(p.leave(1))
	p.none(1)
	p.empty()
}

func TestBlockAndWakeErrors(t *testing.T) {
	for class := range 3 {
		p := begin(t)
		p.well(adders(p)[class](6))
		for range 12 {
			p.is(p.wake(6), api.ErrState)
			p.well(p.block(6))
			p.is(p.block(6), api.ErrState)
			p.is(p.block(6), api.ErrState)
			p.ticks(0)
			p.well(p.wake(6))
			p.is(p.wake(6), api.ErrState)
			p.tick()
		}
	}
}

// A task that is throttled is ready all the same.
func TestBlockOfAThrottledTask(t *testing.T) {
	p := begin(t)
	p.well(p.dead(2, 1, 4))
	p.ticks(2, 0)
	p.is(p.wake(2), api.ErrState)
	p.well(p.block(2))
	p.is(p.block(2), api.ErrState)
	p.well(p.wake(2))
	p.ticks(0, 0, 2)
}

// A fixed-priority task that wakes up is behind all others of its priority, and keeps the priority.
func TestWakeAppends(t *testing.T) {
	for value := range 8 {
		p := begin(t)
		p.well(p.prio(9, value), p.prio(4, value), p.prio(1, value))
		p.well(p.block(9))
		p.looks(4, 0, true)
		p.well(p.block(4))
		p.looks(1, 0, true)
		p.well(p.wake(9), p.wake(4))
		p.ticks(1, 1, 1, 9, 9, 9, 4, 4, 4, 1)
		p.well(p.block(1), p.wake(1))
		p.ticks(9, 9, 9, 4, 4, 4, 1, 1, 1)
	}
}

// Blocked ones of several priorities come back to their own.
func TestWakeOfManyPriorities(t *testing.T) {
	p := begin(t)
	for n := 1; n <= 16; n++ {
		p.well(p.prio(n, (n*5)%8))
	}
	for n := 16; n >= 1; n-- {
		p.well(p.block(n))
	}
	p.looks(0, 0, false)
	for n := 1; n <= 16; n++ {
		p.well(p.wake(n))
	}
	// By priority from 7 on: 3 and 11 (15, 55), 6 and 14 (30, 70), 1 and 9 (5, 45), and so on.
	for _, n := range []int{3, 11, 6, 14, 1, 9, 4, 12, 7, 15, 2, 10, 5, 13, 8, 16} {
		p.ticks(n)
		p.well(p.block(n))
	}
	p.ticks(0)
}

// A fair task gets no credit for the time that it was blocked.
func TestWakeOfFairTasks(t *testing.T) {
	p := begin(t)
	p.well(p.fair(1, 1), p.fair(2, 1), p.block(1))
	p.ticks(2, 2, 2, 2)
	p.well(p.wake(1))
	p.ticks(1, 2, 1, 2)
}

// What a deadline task has left is its own for as long as it is in time for it.
func TestWakeOfDeadlineTasks(t *testing.T) {
	p := begin(t)
	p.well(p.dead(1, 2, 6))
	p.ticks(1)
	p.well(p.block(1))
	p.ticks(0, 0)
	p.well(p.wake(1))
	p.ticks(1, 0, 0, 1, 1, 0) // one that was left until 6, and two from then on
	p = begin(t)
	p.well(p.dead(1, 2, 6))
	p.ticks(1)
	p.well(p.block(1))
	p.ticks(0, 0, 0)
	p.well(p.wake(1))
	p.ticks(1, 1, 0, 0, 0, 0, 1) // two until 10
}

// The class decides, not who came first, nor the numbers.
func TestBestOfTheClasses(t *testing.T) {
	orders := [][3]int{{1, 2, 3}, {1, 3, 2}, {2, 1, 3}, {2, 3, 1}, {3, 1, 2}, {3, 2, 1}}
	for _, come := range orders {
		for _, numbers := range orders {
			p := begin(t)
			for _, class := range come {
				p.well(adders(p)[class-1](numbers[class-1]))
			}
			fair, fixed, dead := numbers[0], numbers[1], numbers[2]
			p.looks(dead, 0, true)
			p.well(p.block(dead))
			p.looks(fixed, 0, true)
			p.well(p.block(fixed))
			p.looks(fair, 0, true)
			p.well(p.block(fair))
			p.looks(0, 0, false)
			for _, n := range []int{fair, fixed, dead} {
				p.well(p.wake(n))
				p.looks(n, 0, true)
			}
			p.well(p.leave(fixed))
			p.looks(dead, 0, true)
			p.well(p.leave(dead))
			p.looks(fair, 0, true)
		}
	}
}

// The least of a class goes ahead of the best of the class below.
func TestBestOfTheLeast(t *testing.T) {
	p := begin(t)
	p.well(p.fair(1, 100), p.prio(16, 0))
	p.ticks(16, 16, 16, 16)
	p.well(p.dead(15, 1, 30), p.prio(2, 7))
	p.ticks(15, 2, 2, 2, 2)
	p.well(p.block(2))
	p.ticks(16)
}

// Within each class, its own order.
func TestBestWithinClasses(t *testing.T) {
	p := begin(t)
	p.well(p.dead(3, 1, 30), p.dead(2, 1, 29), p.dead(1, 1, 30), p.dead(4, 1, 28))
	p.ticks(4, 2, 1, 3, 0)
	p = begin(t)
	p.well(p.prio(3, 2), p.prio(2, 6), p.prio(1, 4), p.prio(4, 6))
	p.ticks(2, 2, 2, 4, 4, 4, 2)
	p.well(p.block(2), p.leave(4))
	p.ticks(1)
	p.well(p.leave(1))
	p.ticks(3)
	p = begin(t)
	p.well(p.fair(2, 2), p.fair(1, 1))
	p.ticks(1, 2, 2, 1, 2, 2, 1)
}

// A throttled task leaves the processor to the classes below, until its deadline.
func TestBestWhileThrottled(t *testing.T) {
	p := begin(t)
	p.well(p.dead(1, 1, 3), p.prio(2, 3), p.fair(3, 1))
	p.ticks(1, 2, 2, 1, 2, 2)
	p.well(p.block(2))
	p.ticks(1, 3, 3, 1, 3)
	p.well(p.block(3))
	p.ticks(0, 1, 0, 0, 1)
}

func TestNow(t *testing.T) {
	for class := range 3 {
		p := begin(t)
		p.well(adders(p)[class](4))
		p.looks(4, 0, true)
		p.ticks(4)
		p.looks(4, 4, false)
		// It had the last tick, though it is blocked.
		p.well(p.block(4))
		p.looks(0, 4, true)
		p.well(p.wake(4))
		p.looks(4, 4, false)
		p.well(p.block(4))
		p.ticks(0)
		p.looks(0, 0, false)
		p.well(p.wake(4))
		p.looks(4, 0, true)
		p.ticks(4)
		p.well(p.leave(4))
		p.looks(0, 0, false)
		// Another task with this number had no tick.
		p.well(adders(p)[class](4))
		p.looks(4, 0, true)
		p.ticks(4)
	}
}

// It left while it was blocked, or after others came; those that leave besides change nothing.
func TestNowOfOneThatLeft(t *testing.T) {
	p := begin(t)
	p.well(p.prio(1, 3), p.prio(2, 3), p.fair(3, 1))
	p.ticks(1)
	p.well(p.leave(2), p.leave(3))
	p.looks(1, 1, false)
	p.well(p.block(1), p.fair(3, 1))
	p.looks(3, 1, true)
	p.well(p.leave(1))
	p.looks(3, 0, true)
	p.well(p.block(3))
	p.looks(0, 0, false)
	p.well(p.wake(3))
	p.ticks(3)
	p.well(p.prio(1, 3))
	p.looks(1, 3, true)
	p.well(p.leave(1))
	p.looks(3, 3, false)
}

// The mark is there as soon as somebody else should go, and until then only.
func TestMark(t *testing.T) {
	p := begin(t)
	p.well(p.fair(1, 1))
	p.looks(1, 0, true)
	p.ticks(1)
	p.looks(1, 1, false)
	p.well(p.fair(2, 1))
	p.looks(1, 1, false) // 2 starts where 1 is, and has the greater number
	p.ticks(1)
	p.looks(2, 1, true)
	p.ticks(2)
	p.looks(1, 2, true)
	p.well(p.prio(3, 0))
	p.looks(3, 2, true)
	p.ticks(3)
	p.looks(3, 3, false)
	p.well(p.prio(4, 0))
	p.looks(3, 3, false)
	p.ticks(3)
	p.looks(3, 3, false)
	p.ticks(3)
	p.looks(4, 3, true) // its slice is over
	p.well(p.block(4))
	p.looks(3, 3, false)
	p.well(p.dead(5, 1, 2))
	p.looks(5, 3, true)
	p.ticks(5)
	p.looks(3, 5, true)
	p.ticks(3)
	p.looks(5, 3, true) // its deadline came with that tick
}

// Whatever is asked, and however often, nothing comes of it.
func TestAskingChangesNothing(t *testing.T) {
	p := begin(t)
	p.well(p.prio(2, 1), p.prio(3, 1), p.dead(1, 1, 4), p.fair(4, 1))
	for _, want := range []int{1, 2, 2, 2, 1, 3, 3, 3, 1, 2, 2, 2} {
		for range 5 {
			if got := p.k.Best(); got != want {
				t.Errorf("Best is %d, not %d", got, want)
			}
			p.same()
		}
		p.ticks(want)
	}
}

// A task that is alone in its queue goes on; a slice ends after 3, 6, 9 ticks
// and so on, whenever the other one came.
func TestSlices(t *testing.T) {
	for alone := range 20 {
		p := begin(t)
		p.well(p.prio(5, 2))
		for range alone {
			p.ticks(5)
		}
		p.well(p.prio(1, 2))
		for range 3 - alone%3 {
			p.ticks(5)
		}
		p.ticks(1, 1, 1, 5, 5, 5, 1)
	}
}

// Each of any number of tasks has its turn, and those of other priorities have none.
func TestSlicesOfManyTasks(t *testing.T) {
	for tasks := 1; tasks <= 14; tasks++ {
		p := begin(t)
		p.well(p.prio(15, 3), p.prio(16, 3))
		for n := 1; n <= tasks; n++ {
			p.well(p.prio(n, 4))
		}
		for round := range 3 * tasks {
			n := 1 + round%tasks
			p.ticks(n, n, n)
		}
		for n := 1; n <= tasks; n++ {
			p.well(p.block(n))
		}
		p.ticks(15, 15, 15, 16, 16, 16, 15)
	}
}

// A tick that somebody else has, of any class, or that nobody has, ends the row
// of ticks: the task has a whole slice behind it.
func TestRowsThatEnd(t *testing.T) {
	for had := 1; had <= 2; had++ {
		for _, other := range []func(p *pair){
			func(p *pair) { p.well(p.dead(9, 1, 30)); p.ticks(9) },
			func(p *pair) { p.well(p.prio(9, 5)); p.ticks(9); p.well(p.block(9)) },
			func(p *pair) { p.well(p.prio(9, 5)); p.ticks(9); p.well(p.leave(9)) },
			func(p *pair) {
				p.well(p.fair(9, 5), p.block(1), p.block(2))
				p.ticks(9)
				p.well(p.wake(1), p.wake(2))
			},
			func(p *pair) {
				p.well(p.block(1), p.block(2))
				p.ticks(0)
				p.well(p.wake(1), p.wake(2))
			},
		} {
			p := begin(t)
			p.well(p.prio(1, 4), p.prio(2, 4))
			for range had {
				p.ticks(1)
			}
			other(p)
			p.ticks(1, 1, 1, 2, 2, 2, 1)
		}
	}
}

// A row that ended does not go on, even if the task stays the first one: it has
// to come to three again and again.
func TestRowsThatNeverComeToThree(t *testing.T) {
	p := begin(t)
	p.well(p.prio(1, 4), p.prio(2, 4), p.dead(3, 1, 3))
	p.ticks(3, 1, 1, 3, 1, 1, 3, 1, 1, 3, 1, 1)
	p.well(p.block(3))
	p.ticks(1, 2, 2, 2, 1)
}

// Being blocked and woken between two ticks changes nothing in how many there were in a row.
func TestRowsThatGoOn(t *testing.T) {
	for had := range 9 {
		p := begin(t)
		p.well(p.prio(1, 4))
		for range had {
			p.ticks(1)
		}
		p.well(p.block(1), p.wake(1))
		p.well(p.block(1), p.wake(1))
		p.well(p.prio(2, 4))
		for range 3 - had%3 {
			p.ticks(1)
		}
		p.ticks(2, 2, 2, 1, 1, 1, 2)
	}
	// But it is behind those of its priority, who have the next ticks.
	p := begin(t)
	p.well(p.prio(1, 4), p.prio(2, 4))
	p.ticks(1, 1)
	p.well(p.block(1), p.wake(1))
	p.ticks(2, 2)
	p.well(p.block(2), p.wake(2))
	p.ticks(1, 1, 1, 2)
}

// Others may come, wait, wake up and leave between two ticks of a row.
func TestRowsWhileOthersComeAndGo(t *testing.T) {
	p := begin(t)
	p.well(p.prio(1, 4), p.prio(2, 4))
	p.ticks(1)
	p.well(p.dead(3, 1, 3), p.prio(4, 7), p.block(2))
	p.looks(3, 1, true)
	p.well(p.leave(3), p.block(4), p.wake(2))
	p.ticks(1)
	p.well(p.leave(4), p.fair(5, 3))
	p.ticks(1, 2)
}

// A task that left and came again begins anew, in any class and priority.
func TestRowsOfOneThatLeft(t *testing.T) {
	for had := 1; had <= 5; had++ {
		p := begin(t)
		p.well(p.prio(1, 4))
		for range had {
			p.ticks(1)
		}
		p.well(p.leave(1), p.prio(1, 4), p.prio(2, 4))
		p.ticks(1, 1, 1, 2, 2, 2, 1)
	}
	for class := range 3 {
		p := begin(t)
		p.well(adders(p)[class](1))
		p.ticks(1, 1)
		p.well(p.leave(1), p.prio(1, 6), p.prio(2, 6))
		p.ticks(1, 1)
		p.well(p.leave(1), p.prio(1, 6), p.block(2), p.wake(2))
		p.ticks(1, 1, 1, 2, 2, 2, 1)
	}
}

// Time passes for deadlines, whoever has the tick: a fair task, one of a fixed priority, or nobody.
func TestTicksPassForDeadlines(t *testing.T) {
	for class := range 3 {
		p := begin(t)
		want := 0
		if class < 2 {
			p.well(adders(p)[class](2))
			want = 2
		}
		p.well(p.dead(1, 2, 5))
		p.ticks(1, 1, want, want, want, 1, 1, want, want, want, 1)
		// A deadline is counted from when the task came.
		p.well(p.dead(3, 1, 2)) // at 11, until 13; that of 1 is 15
		p.ticks(3, 1, 3, want, 3, 1)
	}
}

// A tick of a deadline task is one tick of time, too, and not two.
func TestDeadlineTicksCountOnce(t *testing.T) {
	p := begin(t)
	p.well(p.dead(1, 5, 10), p.dead(2, 1, 6), p.fair(3, 1))
	p.ticks(2, 1, 1, 1, 1, 1, 2, 3, 3, 3, 1, 1)
}

// Only who has a tick is charged for it.
func TestTickChargesNobodyElse(t *testing.T) {
	p := begin(t)
	p.well(p.fair(1, 1), p.fair(2, 1))
	p.ticks(1)
	p.well(p.prio(3, 1))
	p.ticks(3, 3, 3, 3)
	p.well(p.dead(4, 3, 9))
	p.ticks(4, 4)
	p.well(p.block(3))
	p.ticks(4)
	p.ticks(2, 1, 2) // as if there had been nobody but them
}

func TestPicksAreIndependent(t *testing.T) {
	p, q := begin(t), begin(t)
	p.well(p.prio(1, 3), p.prio(2, 3), p.dead(3, 1, 5))
	p.ticks(3, 1, 1)
	q.empty()
	q.well(q.fair(1, 1), q.dead(2, 1, 3))
	q.ticks(2, 1, 1, 2)
	p.ticks(1, 2, 3, 2, 2, 2, 1)
	q.ticks(1)
	p.same()
	q.same()
}

// An error is told, and nothing else happens.
func TestErrorsChangeNothing(t *testing.T) {
	p := begin(t)
	p.well(p.prio(1, 3), p.prio(2, 3), p.dead(3, 1, 5), p.fair(4, 2), p.fair(5, 1))
	p.well(p.prio(6, 3), p.block(6), p.dead(7, 2, 4), p.block(7), p.fair(8, 1), p.block(8))
	errors := []struct {
		call func() api.Errno
		want api.Errno
	}{
		{func() api.Errno { return p.fair(9, 101) }, api.ErrArg},
		{func() api.Errno { return p.fair(17, 1) }, api.ErrArg},
		{func() api.Errno { return p.prio(9, 8) }, api.ErrArg},
		{func() api.Errno { return p.prio(0, 7) }, api.ErrArg},
		{func() api.Errno { return p.dead(9, 3, 2) }, api.ErrArg},
		{func() api.Errno { return p.dead(-1, 1, 2) }, api.ErrArg},
		{func() api.Errno { return p.fair(1, 1) }, api.ErrThere},
		{func() api.Errno { return p.fair(4, 50) }, api.ErrThere},
		{func() api.Errno { return p.prio(3, 7) }, api.ErrThere},
		{func() api.Errno { return p.prio(6, 7) }, api.ErrThere},
		{func() api.Errno { return p.prio(1, 7) }, api.ErrThere},
		{func() api.Errno { return p.dead(8, 1, 1) }, api.ErrThere},
		{func() api.Errno { return p.dead(7, 1, 1) }, api.ErrThere},
		{func() api.Errno { return p.leave(9) }, api.ErrNone},
		{func() api.Errno { return p.block(9) }, api.ErrNone},
		{func() api.Errno { return p.wake(9) }, api.ErrNone},
		{func() api.Errno { return p.wake(1) }, api.ErrState},
		{func() api.Errno { return p.wake(3) }, api.ErrState},
		{func() api.Errno { return p.wake(4) }, api.ErrState},
		{func() api.Errno { return p.block(6) }, api.ErrState},
		{func() api.Errno { return p.block(7) }, api.ErrState},
		{func() api.Errno { return p.block(8) }, api.ErrState},
	}
	refused := func() {
		for i, e := range errors {
			if got := e.call(); got != e.want {
				t.Errorf("the call %d is %d, not %d", i, got, e.want)
			}
			p.same()
		}
	}
	for range 20 {
		refused()
		p.tick()
	}
	// Tasks that are blocked, and those that are not, are as they would be without all that.
	for n := 1; n <= 5; n++ {
		p.well(p.block(n))
	}
	for n := 6; n <= 8; n++ {
		p.well(p.wake(n))
	}
	p.ticks(7, 7, 6, 6, 7, 7, 6)
	p.well(p.leave(7))
	p.ticks(6)
	p.well(p.leave(6))
	p.ticks(8, 8)
	p.none(9)
}
