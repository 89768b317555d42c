package spread

import (
	"testing"

	"ringhall/api"
)

func TestPinErrors(t *testing.T) {
	for cpus := 1; cpus <= 4; cpus++ {
		p := begin(t, cpus)
		p.well(p.fair(1, 1))
		for _, n := range append([]int{1, 2, 16}, badNumbers...) {
			for _, mask := range badMasks(cpus) {
				p.is(p.pin(n, mask), api.ErrArg)
			}
		}
		for _, n := range append([]int{2, 16}, badNumbers...) {
			for mask := 1; mask < 1<<cpus; mask++ {
				p.is(p.pin(n, mask), api.ErrNone)
			}
		}
		p.well(p.pin(1, 1), p.pin(1, 1<<cpus-1))
	}
}

// A task runs on the first processor of its mask, unless it is on another one of them.
func TestPin(t *testing.T) {
	for cpus := 1; cpus <= 4; cpus++ {
		for mask := 1; mask < 1<<cpus; mask++ {
			for other := 1; other < 1<<cpus; other++ {
				p := begin(t, cpus)
				place := func(cpu int) {
					want := make([]int, cpus)
					want[cpu] = 1
					p.on(want...)
				}
				first := func(mask int) int {
					cpu := 0
					for mask>>cpu&1 == 0 {
						cpu++
					}
					return cpu
				}
				p.well(p.fair(1, 1), p.pin(1, mask))
				place(first(mask))
				p.well(p.pin(1, other))
				cpu := first(other)
				if first(mask) > cpu && other>>first(mask)&1 == 1 {
					cpu = first(mask)
				}
				place(cpu)
				p.well(p.block(1), p.wake(1))
				place(first(other))
				p.well(p.block(1), p.pin(1, mask))
				p.on(make([]int, cpus)...)
				p.well(p.wake(1))
				place(first(mask))
				p.rounds(3)
				place(first(mask))
			}
		}
	}
}

func TestBoostErrors(t *testing.T) {
	p := begin(t, 2)
	p.well(p.fair(1, 1), p.prio(2, 1), p.dead(3, 1, 30), p.raise(2, CPrio, 4))
	for _, n := range append([]int{1, 2, 3, 4, 16}, badNumbers...) {
		for _, bad := range badWeights {
			p.is(p.raise(n, CFair, bad), api.ErrArg)
		}
		for _, bad := range badValues {
			p.is(p.raise(n, CPrio, bad), api.ErrArg)
		}
		for _, bad := range badClasses {
			p.is(p.raise(n, bad, 1), api.ErrArg)
		}
	}
	for _, n := range append([]int{4, 16}, badNumbers...) {
		for weight := 1; weight <= 100; weight++ {
			p.is(p.raise(n, CFair, weight), api.ErrNone)
		}
		for value := range 8 {
			p.is(p.raise(n, CPrio, value), api.ErrNone)
		}
		p.is(p.calm(n), api.ErrNone)
	}
	p.is(p.calm(1), api.ErrState)
	p.is(p.calm(3), api.ErrState)
	for n := 1; n <= 3; n++ {
		for weight := 1; weight <= 100; weight++ {
			p.well(p.raise(n, CFair, weight))
		}
		for value := range 8 {
			p.well(p.raise(n, CPrio, value))
		}
		p.well(p.calm(n))
		p.is(p.calm(n), api.ErrState)
	}
}

// A boost of any task to each priority, among tasks of all priorities that came before it.
func TestBoostToPriorities(t *testing.T) {
	for class := range 3 {
		for value := range 8 {
			p := begin(t, 1)
			p.well(p.prio(16, 0))
			var want []int
			for other := 7; other >= 0; other-- {
				p.well(p.prio(other+1, other))
				want = append(want, other+1)
				if other == value {
					want = append(want, 15)
				}
			}
			p.well(adders(p)[class](15), p.raise(15, CPrio, value))
			p.order(append([]int{16}, want...)...)
		}
	}
}

// Boosts may lower a task, too: one with a deadline below the others, one of a fixed priority below all of these.
func TestBoostsThatLower(t *testing.T) {
	p := begin(t, 1)
	p.well(p.fair(16, 1), p.dead(1, 1, 5), p.prio(2, 3), p.prio(3, 1), p.fair(4, 1))
	p.well(p.raise(1, CPrio, 2))
	p.order(16, 2, 1, 3, 4)
	p = begin(t, 1)
	p.well(p.fair(16, 1), p.dead(1, 1, 5), p.prio(2, 3), p.prio(3, 1), p.fair(4, 1))
	p.well(p.raise(2, CPrio, 0), p.raise(1, CFair, 100))
	p.order(16, 3, 2, 1, 4)
	p = begin(t, 1)
	p.well(p.fair(16, 1), p.dead(5, 1, 5), p.prio(2, 3), p.prio(3, 1), p.fair(4, 1))
	p.well(p.raise(5, CFair, 100), p.raise(3, CFair, 100))
	p.order(16, 2, 3, 4, 5)
}

// One that is not fair has the time 0 among fair tasks, whatever weight it is
// boosted with, and whoever came before it.
func TestBoostToFairShares(t *testing.T) {
	for _, weight := range []int{1, 2, 100} {
		p := begin(t, 1)
		p.well(p.fair(1, 1))
		p.ticks(0, 1, 1)
		p.well(p.prio(2, 3), p.raise(2, CFair, weight))
		p.ticks(0, 2, 2, 2, 2, 2)
		p.well(p.calm(2))
		p.ticks(0, 2, 2)
		p.well(p.block(2))
		p.on(1)
		// Among equal times, the number decides.
		p = begin(t, 1)
		p.well(p.prio(3, 3), p.fair(2, 1), p.raise(3, CFair, weight))
		p.on(3)
		p.ticks(0, 2, 3, 3, 3, 3)
		p = begin(t, 1)
		p.well(p.prio(1, 3), p.fair(2, 1), p.raise(1, CFair, weight))
		p.ticks(0, 1, 1, 1, 1)
	}
	// A fair one has its own time, and is charged by its own weight.
	p := begin(t, 1)
	p.well(p.fair(1, 1), p.fair(2, 1), p.raise(1, CFair, 100), p.raise(2, CFair, 50))
	p.ticks(0, 2, 1, 2, 1)
}

// The last boost counts, and nothing is left of the one before.
func TestBoostInPlaceOfAnother(t *testing.T) {
	p := begin(t, 1)
	p.well(p.fair(16, 1), p.prio(2, 3), p.fair(1, 1), p.raise(1, CPrio, 7), p.raise(1, CPrio, 2))
	p.order(16, 2, 1)
	p = begin(t, 1)
	p.well(p.fair(16, 1), p.prio(2, 3), p.fair(1, 1), p.raise(1, CFair, 7), p.raise(1, CPrio, 4))
	p.order(16, 1, 2)
	p = begin(t, 1)
	p.well(p.fair(16, 1), p.prio(2, 3), p.prio(1, 4), p.raise(1, CPrio, 7), p.raise(1, CFair, 7))
	p.order(16, 2, 1)
	p = begin(t, 1)
	p.well(p.fair(16, 1), p.prio(2, 3), p.prio(1, 2), p.raise(1, CFair, 7), p.raise(1, CPrio, 7), p.calm(1))
	p.is(p.calm(1), api.ErrState)
	p.order(16, 2, 1)
}

// A boost lasts, until Calm ends it: while the task runs, waits, is blocked, wakes up and is pinned.
func TestBoostLasts(t *testing.T) {
	p := begin(t, 1)
	p.well(p.fair(1, 1), p.prio(2, 3), p.raise(1, CPrio, 4))
	p.ticks(0, 1, 1, 1, 1)
	p.well(p.block(1))
	p.on(2)
	p.well(p.wake(1))
	p.ticks(0, 1, 1)
	p.well(p.pin(1, 1))
	p.ticks(0, 1)
	p.well(p.block(1), p.calm(1), p.raise(1, CPrio, 5), p.wake(1)) // a blocked one can be boosted
	p.ticks(0, 1)
	p.well(p.block(1), p.calm(1), p.wake(1))
	p.ticks(0, 2, 2)
	p.is(p.calm(1), api.ErrState)
}

// A boosted task is charged by its own class.
func TestBoostAndTicks(t *testing.T) {
	p := begin(t, 1)
	p.well(p.fair(1, 1), p.fair(2, 1), p.raise(1, CPrio, 0))
	p.ticks(0, 1, 1, 1)
	p.well(p.calm(1))
	p.on(1)
	p.ticks(0, 2, 2, 2, 2, 1)
	p = begin(t, 1)
	p.well(p.dead(1, 2, 10), p.raise(1, CPrio, 3), p.prio(2, 3))
	p.on(1)
	p.ticks(0, 2, 1, 2, 1) // at 3 it is throttled, and runs on, as it is boosted
	p.well(p.calm(1))
	p.on(2)
	p.ticks(0, 2, 2, 2, 2, 2, 1, 1, 2) // at 10 it has two ticks
	p = begin(t, 1)
	p.well(p.dead(3, 2, 10), p.fair(2, 1), p.raise(3, CFair, 1))
	p.on(3)
	p.ticks(0, 2, 3, 3, 3, 3)
	p.well(p.calm(3))
	p.on(2)
	p.ticks(0, 2, 2, 2, 2, 3, 3, 2)
}

// A throttled task runs as long as it is boosted, but not while it is blocked.
func TestBoostOfAThrottledTask(t *testing.T) {
	for _, boost := range []kind{{CFair, 1}, {CPrio, 0}} {
		p := begin(t, 2)
		p.well(p.dead(1, 1, 9), p.tick(0))
		p.on(0, 0)
		p.well(p.raise(1, boost.class, boost.value))
		p.on(1, 0)
		p.well(p.raise(1, CFair, 100))
		p.on(1, 0)
		p.well(p.tick(0), p.tick(1))
		p.on(1, 0)
		p.well(p.calm(1))
		p.on(0, 0)
		p.well(p.block(1), p.raise(1, boost.class, boost.value))
		p.on(0, 0)
		p.well(p.tick(0), p.wake(1))
		p.on(1, 0)
		p.well(p.block(1), p.calm(1), p.wake(1))
		p.on(0, 0)
		// 4 of the 18 ticks until its deadline have passed.
		for range 13 {
			p.well(p.tick(1))
			p.on(0, 0)
		}
		p.well(p.tick(1))
		p.on(1, 0)
	}
}

// A throttled task that is boosted has a new budget at its deadline all the same.
func TestBoostOfAReplenishedTask(t *testing.T) {
	p := begin(t, 1)
	p.well(p.dead(1, 1, 4), p.raise(1, CPrio, 0))
	p.ticks(0, 1, 1, 1)
	p.well(p.tick(0), p.calm(1)) // at 4
	p.on(1)
	p.ticks(0, 0, 0, 0, 1)
}

// A task that is calm again runs on, if it is not throttled; others that wait come later.
func TestCalmOfOneThatRuns(t *testing.T) {
	for class := range 3 {
		p := begin(t, 1)
		p.well(adders(p)[class](1), p.raise(1, CPrio, 7), p.prio(2, 6), p.dead(3, 1, 30))
		p.on(1)
		p.well(p.calm(1))
		p.on(1)
		p.ticks(0, 3)
	}
	// One that waits has no boost from now on.
	p := begin(t, 1)
	p.well(p.prio(3, 1), p.fair(1, 1), p.prio(2, 6), p.raise(1, CPrio, 7), p.calm(1))
	p.order(3, 2, 1)
}
