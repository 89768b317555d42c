package spread

import "testing"

// order checks in which order the tasks go that wait for the only processor: each is blocked as soon as it runs.
func (p *pair) order(row ...int) {
	p.Helper()
	for _, want := range row {
		p.on(want)
		p.well(p.block(want))
	}
	p.on(0)
}

// The class decides, not who came first, nor the numbers; 16 runs until all have come.
func TestOrderOfClasses(t *testing.T) {
	orders := [][3]int{{1, 2, 3}, {1, 3, 2}, {2, 1, 3}, {2, 3, 1}, {3, 1, 2}, {3, 2, 1}}
	for _, come := range orders {
		for _, numbers := range orders {
			p := begin(t, 1)
			p.well(p.fair(16, 1))
			for _, class := range come {
				p.well(adders(p)[class-1](numbers[class-1]))
			}
			p.order(16, numbers[2], numbers[1], numbers[0])
		}
	}
	// The least of a class goes ahead of the best of the class below.
	p := begin(t, 1)
	p.well(p.fair(16, 1), p.fair(1, 100), p.prio(15, 0), p.prio(2, 7), p.dead(14, 1, 30), p.dead(13, 29, 30))
	p.order(16, 13, 14, 2, 15, 1)
}

// By deadlines, and not by periods, and then by numbers.
func TestOrderOfDeadlines(t *testing.T) {
	p := begin(t, 1)
	p.well(p.fair(16, 1), p.dead(3, 1, 30), p.dead(2, 1, 29), p.dead(1, 1, 30), p.dead(4, 1, 28))
	p.order(16, 4, 2, 1, 3)
	p = begin(t, 1)
	p.well(p.dead(1, 2, 30))
	p.ticks(0, 1)
	p.well(p.block(1))
	p.rounds(9)
	// At 10, their deadlines are 25, 35 and 30.
	p.well(p.fair(16, 1), p.dead(2, 1, 15), p.dead(3, 1, 25), p.wake(1))
	p.order(16, 2, 1, 3)
}

func TestOrderOfPriorities(t *testing.T) {
	p := begin(t, 1)
	p.well(p.fair(16, 1), p.prio(3, 2), p.prio(2, 6), p.prio(1, 4), p.prio(4, 6))
	p.order(16, 2, 4, 1, 3)
	p = begin(t, 1)
	for value := range 8 {
		p.well(p.prio(value+1, value))
	}
	p.order(1, 8, 7, 6, 5, 4, 3, 2)
}

// Of one priority, who has waited longer goes first: since it came, woke up, or
// was removed from a processor by Tick.
func TestOrderOfWaits(t *testing.T) {
	p := begin(t, 1)
	p.well(p.fair(16, 1), p.prio(9, 3), p.prio(4, 3), p.prio(1, 3))
	p.order(16, 9, 4, 1)
	p = begin(t, 1)
	p.well(p.fair(16, 1), p.prio(1, 5), p.prio(2, 5), p.prio(3, 5))
	p.well(p.block(1), p.block(2), p.wake(2), p.wake(1))
	p.order(16, 3, 2, 1)
	p = begin(t, 1)
	p.well(p.prio(2, 5), p.prio(1, 5), p.prio(3, 5))
	p.ticks(0, 1, 3, 2, 1, 3)
	p.well(p.leave(2), p.prio(2, 5))
	p.ticks(0, 1, 2, 3)
	// Ticks of other processors count, too, each when it was.
	p = begin(t, 2)
	p.well(p.prio(1, 5), p.prio(2, 5), p.prio(3, 5), p.prio(4, 5))
	p.on(1, 2)
	p.well(p.tick(1))
	p.on(1, 3)
	p.well(p.tick(0))
	p.on(4, 3)
	p.well(p.tick(0))
	p.on(2, 3)
	p.well(p.tick(1))
	p.on(2, 1)
}

// One that Pin removes waits since then; what does not remove a task changes nothing in its wait.
func TestOrderOfWaitsAndPin(t *testing.T) {
	p := begin(t, 2)
	p.well(p.prio(1, 5), p.prio(2, 5), p.prio(3, 5), p.prio(4, 5))
	p.well(p.pin(1, 2))
	p.on(3, 2)
	p.well(p.tick(1))
	p.on(3, 4)
	p.well(p.tick(1))
	p.on(3, 1)
	p = begin(t, 2)
	p.well(p.prio(1, 5), p.prio(2, 5), p.prio(3, 5), p.prio(4, 5))
	p.well(p.pin(3, 1), p.pin(3, 3), p.pin(1, 1), p.raise(3, CPrio, 5), p.calm(3), p.raise(3, CPrio, 5))
	p.on(1, 2)
	p.ticks(0, 3, 4)
}

// One that Calm removes waits since then, as a later boost shows; one that Calm
// does not remove, and one that is boosted, waits on.
func TestOrderOfWaitsAndCalm(t *testing.T) {
	p := begin(t, 1)
	p.well(p.dead(1, 1, 30))
	p.ticks(0, 0)
	p.well(p.raise(1, CPrio, 3), p.prio(2, 3), p.prio(3, 3))
	p.on(1)
	p.well(p.calm(1), p.raise(1, CPrio, 3))
	p.order(2, 3, 1)
	p = begin(t, 1)
	p.well(p.dead(1, 1, 30), p.prio(2, 3))
	p.ticks(0, 2)
	p.well(p.prio(3, 3), p.raise(1, CPrio, 3), p.calm(1), p.raise(1, CPrio, 3))
	p.order(2, 1, 3)
	p = begin(t, 1)
	p.well(p.fair(16, 1), p.fair(1, 1), p.prio(2, 3), p.raise(1, CPrio, 3))
	p.order(16, 1, 2)
}

// By virtual times, and then by numbers.
func TestOrderOfFairTasks(t *testing.T) {
	p := begin(t, 1)
	p.well(p.fair(16, 1), p.fair(3, 1), p.fair(1, 100), p.fair(2, 10))
	p.order(16, 1, 2, 3)
	p = begin(t, 1)
	p.well(p.fair(1, 1), p.fair(2, 2), p.fair(3, 4))
	p.on(1)
	p.ticks(0, 2, 3, 3, 2, 3, 3, 1)
}

// A throttled task leaves its processor to others, until its deadline.
func TestThrottledTasks(t *testing.T) {
	p := begin(t, 1)
	p.well(p.dead(1, 1, 3), p.prio(2, 3), p.fair(3, 1))
	p.on(1)
	p.ticks(0, 2, 2, 1, 2, 2, 1)
	p.well(p.block(2))
	p.ticks(0, 3, 3, 1)
	p.well(p.block(3))
	p.ticks(0, 0, 0, 1)
}

// New tasks take the processors in ascending order, and none takes one from another task.
func TestFill(t *testing.T) {
	p := begin(t, 4)
	for n := 5; n >= 1; n-- {
		p.well(p.fair(n, n))
	}
	p.on(5, 4, 3, 2)
	p.well(p.prio(6, 7), p.dead(7, 1, 1), p.raise(1, CPrio, 7), p.dead(8, 1, 1))
	p.on(5, 4, 3, 2)
	p.well(p.tick(2))
	p.on(5, 4, 7, 2)
	p.well(p.block(5))
	p.on(8, 4, 7, 2)
	p.well(p.tick(3))
	p.on(8, 4, 7, 1)
	p.well(p.tick(1))
	p.on(8, 6, 7, 1)
	p.well(p.block(7))
	p.on(8, 6, 4, 1)
	p.well(p.block(8))
	p.on(3, 6, 4, 1)
}

// Who is removed from a processor may come to another one, of a smaller number, that was idle.
func TestFillOfAnotherProcessor(t *testing.T) {
	p := begin(t, 3)
	p.well(p.fair(1, 1), p.fair(2, 1), p.fair(3, 1), p.block(1), p.block(2))
	p.on(0, 0, 3)
	p.well(p.tick(2))
	p.on(3, 0, 0)
	p.well(p.pin(3, 6))
	p.on(0, 3, 0)
	p.well(p.tick(1))
	p.on(0, 3, 0)
	p.well(p.pin(3, 7)) // it may stay where it is
	p.on(0, 3, 0)
	p.well(p.tick(0))
	p.on(0, 3, 0)
	p.well(p.tick(1))
	p.on(3, 0, 0)
}

// Two that may run again at one time take the processors in their order, each
// processor the first one that it may have.
func TestFillOfManyProcessors(t *testing.T) {
	p := begin(t, 2)
	p.well(p.dead(5, 1, 2), p.dead(2, 1, 2))
	p.on(5, 2)
	p.well(p.tick(0))
	p.on(0, 2)
	p.well(p.tick(1))
	p.on(0, 0)
	p.well(p.tick(1))
	p.on(0, 0)
	p.well(p.tick(1))
	p.on(2, 5)
	// 2 takes the processor that 5 would need, though it might take the other one.
	p.rounds(1)
	p.on(0, 0)
	p.well(p.pin(5, 1))
	p.rounds(1)
	p.on(2, 0)
	p.well(p.pin(2, 2))
	p.on(5, 2)
}

// A processor is idle, if nobody who waits may run there.
func TestFillByMasks(t *testing.T) {
	p := begin(t, 2)
	p.well(p.fair(1, 1), p.pin(1, 2))
	p.on(0, 1)
	p.well(p.prio(2, 3))
	p.on(2, 1)
	p.well(p.prio(3, 7), p.pin(3, 2), p.block(2))
	p.on(0, 1)
	p.well(p.tick(0))
	p.on(0, 1)
	p.well(p.tick(1))
	p.on(0, 3)
	p.well(p.pin(1, 3))
	p.on(1, 3)
	p.well(p.wake(2), p.pin(2, 2), p.tick(0), p.block(3))
	p.on(1, 2)
}
