package fair

import (
	"slices"
	"testing"

	"ringhall/api"
)

func TestNew(t *testing.T) {
	if MaxGroup != 8 {
		t.Errorf("MaxGroup is %d", MaxGroup)
	}
	begin(t).empty()
}

// A Fair that New did not make is empty, and can be filled.
func TestFairWithoutNew(t *testing.T) {
	p := begin(t)
	p.f = new(Fair)
	p.empty()
	p.group(1, 1)
	p.add(1, 1, 1)
	p.add(2, 1, 0)
	p.ticks(1, 2, 1, 2)
}

func TestExampleOfTheDocument(t *testing.T) {
	f := New()
	f.Add(1, 1, 0)
	f.Add(2, 2, 0)
	for i, want := range []int{1, 2, 2, 1, 2, 2, 1, 2, 2} {
		if got, err := f.Tick(); got != want || err != api.OK {
			t.Errorf("the tick %d is charged to %d, %d", i, got, err)
		}
	}
	for n, want := range map[int]int{1: 3 * 1048576, 2: 6 * 524288} {
		if got, err := f.At(n); got != want || err != api.OK {
			t.Errorf("At(%d) is %d, %d", n, got, err)
		}
	}
}

// All numbers of tasks and groups may be there at one time, with the least and the greatest weight.
func TestAllNumbers(t *testing.T) {
	for _, weight := range []int{1, 100} {
		p := begin(t)
		for g := 1; g <= 8; g++ {
			if err := p.group(g, weight); err != api.OK {
				t.Errorf("Group(%d, %d) is %d", g, weight, err)
			}
			p.same()
		}
		for n := 1; n <= 16; n++ {
			if err := p.add(n, weight, n%9); err != api.OK {
				t.Errorf("Add(%d, %d, %d) is %d", n, weight, n%9, err)
			}
			p.same()
		}
		p.ticks(1, 2, 3, 4, 5, 6, 7, 8, 9)
		for n := 1; n <= 16; n++ {
			p.block(n)
			p.same()
			p.wake(n)
			p.same()
		}
		for n := 1; n <= 16; n++ {
			if err := p.leave(n); err != api.OK {
				t.Errorf("Leave(%d) is %d", n, err)
			}
			p.same()
		}
	}
}

// A new group has the time 0, however far ahead the others are; its first task brings it up to them.
func TestNewGroup(t *testing.T) {
	p := begin(t)
	p.add(1, 1, 0)
	p.ticks(1, 1, 1)
	p.group(4, 1)
	p.groupTimes(map[int]int{4: 0})
	p.add(2, 1, 4)
	p.groupTimes(map[int]int{4: 3})
}

func TestGroupOfBadArguments(t *testing.T) {
	p := begin(t)
	p.group(1, 1)
	p.group(8, 100)
	p.add(1, 1, 1)
	p.add(2, 1, 8)
	refused := func(g, weight int) {
		t.Helper()
		if err := p.group(g, weight); err != api.ErrArg {
			t.Errorf("Group(%d, %d) is %d", g, weight, err)
		}
		p.same()
	}
	for _, g := range append([]int{0, 9, 16}, badNumbers...) {
		for _, weight := range append([]int{1, 100}, badWeights...) {
			refused(g, weight)
		}
	}
	for g := 1; g <= 8; g++ {
		for _, weight := range badWeights {
			refused(g, weight)
		}
	}
	// The weights are still 1 and 100.
	p.ticks(1, 2)
	p.groupTimes(map[int]int{1: 1})
	if got, _ := p.f.GroupAt(8); got != 10485 {
		t.Errorf("GroupAt(8) is %d", got)
	}
}

// A group with another weight keeps its time and its tasks; only ticks that come cost something else.
func TestGroupAgain(t *testing.T) {
	p := begin(t)
	p.group(3, 1)
	p.add(1, 1, 3)
	p.add(2, 1, 0)
	p.ticks(1, 2, 1, 2)
	if err := p.group(3, 2); err != api.OK {
		t.Errorf("Group is %d", err)
	}
	p.times(map[int]int{1: 2, 2: 2})
	p.groupTimes(map[int]int{3: 2})
	p.ticks(1, 2, 1, 1, 2, 1)
	p.times(map[int]int{1: 6, 2: 4})
	p.groupTimes(map[int]int{3: 4})
	// Also while nobody of it is ready, or there.
	p.block(1)
	p.group(3, 1)
	p.same()
	p.wake(1)
	p.ticks(1, 2, 1, 2)
	p.leave(1)
	p.group(3, 4)
	p.groupTimes(map[int]int{3: 6})
	p.add(1, 4, 3)
	p.ticks(1, 2, 1, 1, 1, 1, 2)
}

func TestAddErrors(t *testing.T) {
	p := begin(t)
	p.group(2, 1)
	p.add(1, 1, 0)
	p.add(2, 1, 2)
	check := func(n, weight, g int, want api.Errno) {
		t.Helper()
		if err := p.add(n, weight, g); err != want {
			t.Errorf("Add(%d, %d, %d) is %d, not %d", n, weight, g, err, want)
		}
		p.same()
	}
	// Arguments out of their bounds, whether the task or the group is there or not.
	for _, n := range []int{1, 2, 3, 16} {
		for _, weight := range badWeights {
			for g := range 9 {
				check(n, weight, g, api.ErrArg)
			}
		}
		for _, g := range append([]int{9, 16}, badNumbers...) {
			check(n, 1, g, api.ErrArg)
		}
	}
	for _, n := range append([]int{0}, badNumbers...) {
		for g := range 9 {
			check(n, 1, g, api.ErrArg)
		}
	}
	// A task that is there, even in a group that is not.
	for _, n := range []int{1, 2} {
		for g := range 9 {
			check(n, 1, g, api.ErrThere)
			check(n, 100, g, api.ErrThere)
		}
	}
	for _, n := range []int{3, 16} {
		for _, g := range []int{1, 3, 4, 8} {
			check(n, 100, g, api.ErrNone)
		}
	}
	// A task is there while it is blocked, too.
	p.block(2)
	check(2, 1, 0, api.ErrThere)
	check(2, 1, 8, api.ErrThere)
	p.ticks(1, 1)
	p.wake(2)
	p.ticks(2, 1)
	check(3, 1, 2, api.OK)
	check(16, 1, 0, api.OK)
}

// A task that is new wakes up like any other: it starts where the foremost of the others is.
func TestAddWakes(t *testing.T) {
	p := begin(t)
	p.add(5, 1, 0)
	p.ticks(5, 5, 5)
	p.add(6, 1, 0)
	p.times(map[int]int{5: 3, 6: 3})
	p.ticks(5, 6, 5)
	p.add(4, 1, 0)
	p.times(map[int]int{4: 4, 5: 5, 6: 4})
	if err := p.wake(4); err != api.ErrState {
		t.Errorf("Wake of a new task is %d", err)
	}
	p.group(1, 1)
	p.add(1, 1, 1)
	p.times(map[int]int{1: 0})
	p.groupTimes(map[int]int{1: 4})
	p.ticks(1, 4, 6, 1)
	p.add(2, 1, 1)
	p.times(map[int]int{1: 2, 2: 2})
	p.groupTimes(map[int]int{1: 6})
	p.add(3, 1, 0)
	p.times(map[int]int{3: 5})
}

// What a task had before it left is forgotten; its group keeps what it had.
func TestLeave(t *testing.T) {
	p := begin(t)
	p.group(1, 1)
	p.add(1, 1, 1)
	p.add(2, 4, 0)
	p.ticks(1, 2, 2, 2, 2, 1, 2)
	for _, n := range append([]int{0, 3, 16}, badNumbers...) {
		if err := p.leave(n); err != api.ErrNone {
			t.Errorf("Leave(%d) is %d", n, err)
		}
		p.same()
	}
	if err := p.leave(1); err != api.OK {
		t.Errorf("Leave is %d", err)
	}
	if at, err := p.f.At(1); at != 0 || err != api.ErrNone {
		t.Errorf("At of a task that left is %d, %d", at, err)
	}
	for what, err := range map[string]api.Errno{"Leave": p.leave(1), "Block": p.block(1), "Wake": p.wake(1)} {
		if err != api.ErrNone {
			t.Errorf("%s of a task that left is %d", what, err)
		}
	}
	p.groupTimes(map[int]int{1: 2})
	p.block(2)
	if err := p.leave(2); err != api.OK {
		t.Errorf("Leave of a blocked task is %d", err)
	}
	p.same()
	if n, err := p.f.Tick(); n != 0 || err != api.ErrNone {
		t.Errorf("Tick of nobody is %d, %d", n, err)
	}
	// The numbers are free for tasks of other weights and groups.
	p.add(2, 1, 1)
	p.add(1, 1, 0)
	p.times(map[int]int{1: 2, 2: 0})
	p.groupTimes(map[int]int{1: 2})
	p.ticks(2, 1, 2, 1)
}

// With its last ready task, a group stops being a rival, until another task comes.
func TestLeaveOfTheLastReadyTask(t *testing.T) {
	p := begin(t)
	p.group(1, 1)
	p.add(1, 1, 1)
	p.add(2, 1, 1)
	p.add(3, 1, 0)
	p.block(2)
	p.leave(1)
	p.ticks(3, 3, 3, 3)
	p.wake(2)
	p.times(map[int]int{2: 0})
	p.groupTimes(map[int]int{1: 4})
	p.ticks(2, 3)
}

func TestBlockAndWakeErrors(t *testing.T) {
	p := begin(t)
	p.group(1, 1)
	p.add(1, 1, 0)
	p.add(2, 1, 1)
	check := func(what string, got, want api.Errno) {
		t.Helper()
		if got != want {
			t.Errorf("%s is %d, not %d", what, got, want)
		}
		p.same()
	}
	for _, n := range append([]int{0, 3, 16}, badNumbers...) {
		check("Block of no task", p.block(n), api.ErrNone)
		check("Wake of no task", p.wake(n), api.ErrNone)
	}
	for _, n := range []int{1, 2} {
		p.ticks(2, 1)
		check("Wake of a ready task", p.wake(n), api.ErrState)
		check("Block", p.block(n), api.OK)
		check("Block of a blocked task", p.block(n), api.ErrState)
		check("Wake", p.wake(n), api.OK)
		check("Wake of a ready task", p.wake(n), api.ErrState)
	}
}

// A blocked task does not go, and its time stands still.
func TestBlock(t *testing.T) {
	p := begin(t)
	p.add(1, 1, 0)
	p.add(2, 1, 0)
	p.add(3, 1, 0)
	p.ticks(1, 2)
	p.block(3)
	p.ticks(1, 2, 1, 2)
	p.times(map[int]int{1: 3, 2: 3, 3: 0})
	p.block(1)
	p.block(2)
	p.idle(3)
}

// A blocked task that is behind wakes up at the least time of the ready ones, one that is ahead at its own.
func TestWakeOfUngroupedTasks(t *testing.T) {
	p := begin(t)
	p.add(1, 1, 0)
	p.add(2, 1, 0)
	p.block(2)
	p.ticks(1, 1, 1, 1)
	p.add(3, 1, 0)
	p.ticks(1, 3, 1)
	p.times(map[int]int{1: 6, 2: 0, 3: 5})
	p.wake(2)
	p.times(map[int]int{1: 6, 2: 5, 3: 5})
	p.ticks(2, 3, 1)
	// Task 1 is ahead now, at 7: it stays there.
	p.block(1)
	p.wake(1)
	p.times(map[int]int{1: 7, 2: 6, 3: 6})
	// No task ready means no top: each time stays as it is.
	p.block(1)
	p.block(2)
	p.block(3)
	p.wake(2)
	p.times(map[int]int{1: 7, 2: 6, 3: 6})
	// Blocked tasks count for nothing, though they are further back.
	p.ticks(2, 2, 2)
	p.wake(1)
	p.times(map[int]int{1: 9, 2: 9, 3: 6})
}

// Runnable groups count with their own time for a task that wakes up, not with their tasks' times.
func TestWakeBesideGroups(t *testing.T) {
	p := begin(t)
	p.group(1, 1)
	p.group(2, 2)
	p.add(1, 1, 0)
	p.block(1)
	p.add(2, 1, 1)
	p.add(3, 1, 1)
	p.add(4, 2, 2)
	p.ticks(2, 4, 4, 3, 4, 4, 2, 4, 4)
	p.times(map[int]int{2: 2, 3: 1, 4: 3})
	p.groupTimes(map[int]int{1: 3, 2: 3})
	p.wake(1)
	p.times(map[int]int{1: 3})
	// Group 1 is no rival without a ready task: its time 3 counts for nothing.
	p.block(1)
	p.block(2)
	p.block(3)
	p.ticks(4, 4)
	p.wake(1)
	p.times(map[int]int{1: 4})
	p.ticks(4, 1, 4)
	p.groupTimes(map[int]int{1: 3, 2: 5})
}

// What is furthest back is the top, for all that wake up: a group here, though a task is ready, too.
func TestWakeOfTasksBesideAGroupThatIsBehind(t *testing.T) {
	p := begin(t)
	p.add(1, 1, 0)
	p.ticks(1, 1, 1)
	p.block(1)
	p.group(1, 1)
	p.add(2, 1, 1)
	p.ticks(2)
	p.wake(1)
	p.add(3, 1, 0)
	p.times(map[int]int{1: 3, 2: 1, 3: 1})
	p.groupTimes(map[int]int{1: 1})
	p.ticks(2, 3, 2, 3, 2)
}

// With other ready tasks in its group, a task wakes up at the least of their times; the group's time stays.
func TestWakeAmongMates(t *testing.T) {
	p := begin(t)
	p.group(7, 4)
	p.add(9, 1, 0)
	p.add(1, 1, 7)
	p.add(2, 1, 7)
	p.block(1)
	p.ticks(2, 9, 2, 2, 2)
	p.add(3, 1, 7)
	p.ticks(2, 9, 3, 2)
	p.times(map[int]int{1: 0, 2: 6, 3: 5})
	before, _ := p.f.GroupAt(7)
	p.wake(1)
	p.times(map[int]int{1: 5, 2: 6, 3: 5})
	if after, _ := p.f.GroupAt(7); after != before {
		t.Errorf("the group's time is %d, not %d", after, before)
	}
	// One that is ahead stays there, and mates that are blocked count for nothing.
	p.block(2)
	p.wake(2)
	p.times(map[int]int{1: 5, 2: 6, 3: 5, 9: 2})
	p.block(1)
	p.block(3)
	p.ticks(2, 2)
	p.wake(1)
	p.times(map[int]int{1: 8, 2: 8, 3: 5})
}

// A task of one group is no mate of a task of another one, nor of one without a group.
func TestWakeAmongOthers(t *testing.T) {
	p := begin(t)
	p.group(1, 1)
	p.group(2, 1)
	p.add(1, 1, 1)
	p.add(2, 1, 2)
	p.add(3, 1, 0)
	p.block(2)
	p.ticks(1, 3, 1, 3)
	p.wake(2)
	p.times(map[int]int{1: 2, 2: 0, 3: 2})
	p.groupTimes(map[int]int{1: 2, 2: 2})
}

// The first ready task of a group keeps its time, and the group catches up.
func TestWakeOfAGroup(t *testing.T) {
	p := begin(t)
	p.group(1, 1)
	p.add(1, 1, 1)
	p.add(2, 1, 1)
	p.add(3, 1, 0)
	p.block(1)
	p.block(2)
	p.ticks(3, 3, 3)
	p.wake(2)
	p.times(map[int]int{1: 0, 2: 0, 3: 3})
	p.groupTimes(map[int]int{1: 3})
	p.ticks(2, 3, 2, 3, 2)
	p.groupTimes(map[int]int{1: 6})
	// A group that is ahead stays there.
	p.block(2)
	p.wake(1)
	p.times(map[int]int{1: 0, 2: 3, 3: 5})
	p.groupTimes(map[int]int{1: 6})
	// Without a top, its time stays.
	p.block(1)
	p.ticks(3, 3, 3)
	p.block(3)
	p.wake(2)
	p.times(map[int]int{1: 0, 2: 3, 3: 8})
	p.groupTimes(map[int]int{1: 6})
}

// Two groups: one catches up with the other one.
func TestWakeOfAGroupBesideAGroup(t *testing.T) {
	p := begin(t)
	p.group(1, 1)
	p.group(2, 1)
	p.add(1, 1, 1)
	p.add(2, 1, 2)
	p.block(2)
	p.ticks(1, 1, 1)
	p.wake(2)
	p.times(map[int]int{1: 3, 2: 0})
	p.groupTimes(map[int]int{1: 3, 2: 3})
	p.ticks(1, 2, 1, 2)
}

// Among equal times, groups go first, and then the smaller number.
func TestTies(t *testing.T) {
	p := begin(t)
	p.group(8, 1)
	p.group(2, 1)
	p.add(1, 1, 0)
	p.add(16, 1, 8)
	p.add(15, 1, 8)
	p.add(14, 1, 2)
	p.add(3, 1, 0)
	p.add(13, 1, 2)
	p.ticks(13, 15, 1, 3, 14, 16, 1, 3, 13, 15, 1, 3)
}

// A group is selected by its own time, however far ahead its tasks are; within it, their times count.
func TestPickWithinAGroup(t *testing.T) {
	p := begin(t)
	p.group(1, 4)
	p.add(1, 1, 1)
	p.add(2, 2, 1)
	p.add(3, 1, 0)
	p.ticks(1, 3, 2, 2, 1, 2, 3, 2, 1, 2, 2)
	p.times(map[int]int{1: 3, 2: 3, 3: 2})
}

func TestPickChangesNothing(t *testing.T) {
	p := begin(t)
	p.group(1, 1)
	p.add(2, 1, 0)
	p.add(1, 1, 1)
	for _, want := range []int{1, 2, 1, 2} {
		for range 3 {
			if got, err := p.f.Pick(); got != want || err != api.OK {
				t.Errorf("Pick is %d, %d, not %d", got, err, want)
			}
		}
		p.ticks(want)
	}
}

// A tick costs what vtime.Cost says, of every weight, to the task and to its group.
func TestTickOfEveryWeight(t *testing.T) {
	for weight := 1; weight <= 100; weight++ {
		f := New()
		f.Group(1, weight)
		f.Add(1, 101-weight, 1)
		for n := 1; n <= 3; n++ {
			if got, err := f.Tick(); got != 1 || err != api.OK {
				t.Errorf("Tick is %d, %d", got, err)
			}
			if at, err := f.At(1); at != n*(1048576/(101-weight)) || err != api.OK {
				t.Errorf("of weight %d, At is %d, %d after %d ticks", 101-weight, at, err, n)
			}
			if at, err := f.GroupAt(1); at != n*(1048576/weight) || err != api.OK {
				t.Errorf("of weight %d, GroupAt is %d, %d after %d ticks", weight, at, err, n)
			}
		}
	}
}

// Virtual times grow beyond 32 bits.
func TestGreatTimes(t *testing.T) {
	p := begin(t)
	p.group(1, 1)
	p.add(1, 1, 1)
	p.add(2, 1, 0)
	for range 10000 {
		p.tick()
	}
	p.times(map[int]int{1: 5000, 2: 5000})
	p.groupTimes(map[int]int{1: 5000})
	p.add(3, 1, 0)
	p.add(4, 1, 1)
	p.times(map[int]int{3: 5000, 4: 5000})
}

func TestFairsAreIndependent(t *testing.T) {
	p, q := begin(t), begin(t)
	p.group(1, 1)
	p.add(1, 1, 1)
	q.empty()
	q.group(1, 2)
	q.add(1, 3, 1)
	q.add(2, 1, 0)
	q.ticks(1, 2, 1, 1, 2)
	p.ticks(1, 1)
	q.same()
	p.same()
}

// An error is told, and nothing else happens.
func TestErrorsChangeNothing(t *testing.T) {
	p := begin(t)
	p.group(1, 3)
	p.add(1, 5, 1)
	p.add(2, 7, 1)
	p.add(3, 2, 0)
	p.block(2)
	errors := []func() api.Errno{
		func() api.Errno { return p.group(9, 1) },
		func() api.Errno { return p.group(1, 0) },
		func() api.Errno { return p.add(1, 1, 0) },
		func() api.Errno { return p.add(2, 9, 1) },
		func() api.Errno { return p.add(4, 1, 2) },
		func() api.Errno { return p.add(4, 0, 0) },
		func() api.Errno { return p.leave(4) },
		func() api.Errno { return p.block(2) },
		func() api.Errno { return p.wake(1) },
	}
	for range 40 {
		p.tick()
		for i, f := range errors {
			if f() == api.OK {
				t.Errorf("the call %d is no error", i)
			}
			p.same()
		}
	}
	want := []api.Errno{api.ErrArg, api.ErrArg, api.ErrThere, api.ErrThere, api.ErrNone, api.ErrArg, api.ErrNone, api.ErrState, api.ErrState}
	var got []api.Errno
	for _, f := range errors {
		got = append(got, f())
	}
	if !slices.Equal(got, want) {
		t.Errorf("the errors are %d, not %d", got, want)
	}
}
