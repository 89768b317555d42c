package pick

import (
	"ringhall/api"
	"ringhall/prio"
)

// fixed class: tasks of fixed priorities, which are in their queues while they
// are ready. Its methods are called for tasks of this class only, so that one
// that is in no queue is blocked.
type fixed struct {
	queues prio.Prio
	values [api.MaxTask + 1]int // by task: the priority of a blocked one
}

// Leave: a task goes.
func (f *fixed) Leave(t int) api.Errno {
	f.queues.Out(t) // of a blocked one, nothing is there to take out
	return api.OK
}

// Block: a task waits for something.
func (f *fixed) Block(t int) api.Errno {
	value, err := f.queues.Out(t)
	if err != api.OK {
		return api.ErrState
	}
	// The queue was all that told the priority.
	f.values[t] = value
	return api.OK
}

// Wake: it is ready again, behind all others of its priority.
func (f *fixed) Wake(t int) api.Errno {
	if f.queues.Put(t, f.values[t]) != api.OK {
		return api.ErrState
	}
	return api.OK
}

// turn: who goes first, which must be somebody, goes behind all others of its priority.
func (f *fixed) turn() {
	_, value, _ := f.queues.First()
	f.queues.Turn(value)
}
