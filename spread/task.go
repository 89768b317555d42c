package spread

import (
	"slices"

	"ringhall/api"
	"ringhall/reserve"
	"ringhall/vtime"
)

// kind of a task: its class, and a value in it. The class is never 0.
type kind struct {
	class, value int
}

// task with what all have, and what those of its own class have.
type task struct {
	own     kind // its class is 0 if there is no such task
	boost   kind // its class is 0 if the task is not boosted
	ready   bool
	cpus    int // a bit for each processor on which it may run
	since   int // how many waits had begun, of all tasks, when its last one did
	time    int // virtual, of a fair task; 0 for others
	reserve reserve.Reserve
}

// isKind tells whether a task may be added, or boosted, to a class with a value.
func isKind(class, v int) bool {
	switch class {
	case CFair:
		return v >= 1 && v <= vtime.MaxWeight
	case CPrio:
		return v >= 0 && v < api.MaxPrio
	}
	return false
}

func isTask(t int) bool {
	return t >= 1 && t <= api.MaxTask
}

func (x *task) isBoosted() bool {
	return x.boost.class != 0
}

// mayWait tells whether a task that does not run waits for a processor.
func (x *task) mayWait() bool {
	return x.ready && (!x.reserve.Throttled || x.isBoosted())
}

// mayRun tells whether a processor is one of those that a task may have.
func (x *task) mayRun(cpu int) bool {
	return x.cpus>>cpu&1 == 1
}

// charge a tick, by the task's own class.
func (x *task) charge() {
	switch x.own.class {
	case CFair:
		cost, _ := vtime.Cost(x.own.value)
		x.time += cost
	case CDead:
		x.reserve.Use()
	}
}

// precedes tells whether a task goes ahead of another one, apart from their numbers.
func (x *task) precedes(y *task) bool {
	a, b := x.rank(), y.rank()
	return slices.Compare(a[:], b[:]) < 0
}

// rank of a task: of two, the one with the smaller number goes first, at the
// first place in which they differ.
func (x *task) rank() [3]int {
	as := x.own
	if x.isBoosted() {
		as = x.boost
	}
	switch as.class {
	case CDead:
		return [3]int{-CDead, x.reserve.Due}
	case CPrio:
		return [3]int{-CPrio, -as.value, x.since}
	}
	return [3]int{-CFair, x.time}
}
