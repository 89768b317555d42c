package dead

import (
	"testing"

	"ringhall/api"
)

func TestNew(t *testing.T) {
	if MaxPeriod != 30 {
		t.Errorf("MaxPeriod is %d", MaxPeriod)
	}
	p := begin(t)
	if now := p.d.Now(); now != 0 {
		t.Errorf("Now is %d at first", now)
	}
	p.empty()
}

// A Dead that New did not make is empty, and can be filled.
func TestDeadWithoutNew(t *testing.T) {
	p := begin(t)
	p.d = new(Dead)
	p.empty()
	p.add(1, 1, 2)
	p.ticks(1, 0, 1, 0)
}

func TestExampleOfTheDocument(t *testing.T) {
	d := New()
	d.Add(1, 1, 2)
	for i, want := range []state{{0, 2, true, api.OK}, {1, 4, false, api.OK}, {0, 4, true, api.OK}, {1, 6, false, api.OK}} {
		if got, used := d.Tick(), (i+1)%2; got != used {
			t.Errorf("the tick %d is used by %d, not %d", i, got, used)
		}
		if got := stateOf(d.At(1)); got != want {
			t.Errorf("after the tick %d, At is %v, not %v", i, got, want)
		}
		if got := d.Now(); got != i+1 {
			t.Errorf("after the tick %d, Now is %d", i, got)
		}
	}
}

// Each tick is one, whoever uses it, and no other call takes time.
func TestNow(t *testing.T) {
	p := begin(t)
	p.ticks(0)
	p.passes(1)
	p.add(1, 1, 3)
	p.ticks(1, 0)
	p.passes(2)
	p.block(1)
	p.wake(1)
	p.leave(1)
	p.leave(1)
	if now := p.d.Now(); now != 6 {
		t.Errorf("Now is %d after 6 ticks", now)
	}
}

// Every budget in every period, at several times.
func TestAdd(t *testing.T) {
	for _, start := range []int{0, 1, 47} {
		for period := 1; period <= 30; period++ {
			for budget := 1; budget <= period; budget++ {
				p := begin(t)
				p.passes(start)
				n := 1 + (budget+period)%16
				if err := p.add(n, budget, period); err != api.OK {
					t.Errorf("Add(%d, %d, %d) is %d", n, budget, period, err)
				}
				p.at(n, budget, start+period, false)
				if got, err := p.d.Pick(); got != n || err != api.OK {
					t.Errorf("Pick is %d, %d, not %d", got, err, n)
				}
				if err := p.wake(n); err != api.ErrState {
					t.Errorf("Wake of a new task is %d", err)
				}
			}
		}
	}
}

// All numbers of tasks may be there at one time.
func TestAllNumbers(t *testing.T) {
	p := begin(t)
	var row []int
	for n := 1; n <= 16; n++ {
		if err := p.add(n, 1, 14+n); err != api.OK {
			t.Errorf("Add(%d) is %d", n, err)
		}
		p.same()
		row = append(row, n)
	}
	// By the deadlines 15 to 30; the first two have the deadlines 30 and 32 by then.
	p.ticks(row[:15]...)
	p.ticks(1, 16)
	for n := 1; n <= 16; n++ {
		if err := p.block(n); err != api.OK {
			t.Errorf("Block(%d) is %d", n, err)
		}
		p.same()
		if err := p.wake(n); err != api.OK {
			t.Errorf("Wake(%d) is %d", n, err)
		}
		p.same()
	}
	for n := 1; n <= 16; n++ {
		if err := p.leave(n); err != api.OK {
			t.Errorf("Leave(%d) is %d", n, err)
		}
		p.same()
	}
}

func TestAddErrors(t *testing.T) {
	p := begin(t)
	p.add(1, 2, 5)
	p.add(2, 1, 3)
	p.block(2)
	check := func(n, budget, period int, want api.Errno) {
		t.Helper()
		if err := p.add(n, budget, period); err != want {
			t.Errorf("Add(%d, %d, %d) is %d, not %d", n, budget, period, err, want)
		}
		p.same()
	}
	// Arguments out of their bounds, whether the task is there or not.
	for _, n := range []int{1, 2, 3, 16} {
		for _, bad := range badTimes {
			check(n, 1, bad, api.ErrArg)
			check(n, bad, bad, api.ErrArg)
			for _, period := range []int{1, 5, 30} {
				check(n, bad, period, api.ErrArg)
			}
		}
		for period := 1; period <= 30; period++ {
			check(n, period+1, period, api.ErrArg)
			check(n, 0, period, api.ErrArg)
			check(n, -period, period, api.ErrArg)
			check(n, -period, -period, api.ErrArg)
		}
	}
	for _, n := range badNumbers {
		check(n, 1, 1, api.ErrArg)
		check(n, 1, 30, api.ErrArg)
		check(n, 0, 0, api.ErrArg)
	}
	// A task is there, while it is blocked or throttled, too.
	for _, n := range []int{1, 2} {
		check(n, 1, 1, api.ErrThere)
		check(n, 30, 30, api.ErrThere)
	}
	p.ticks(1, 1)
	p.at(1, 0, 5, true)
	check(1, 2, 5, api.ErrThere)
	check(3, 1, 1, api.OK)
	check(16, 30, 30, api.OK)
}

// What a task had before it left is forgotten.
func TestLeave(t *testing.T) {
	p := begin(t)
	p.add(1, 1, 4)
	p.add(2, 2, 6)
	p.add(3, 2, 7)
	p.ticks(1, 2)
	p.block(3)
	for n := 1; n <= 3; n++ {
		if err := p.leave(n); err != api.OK {
			t.Errorf("Leave(%d) is %d", n, err)
		}
		p.same()
		p.none(n)
		if err := p.leave(n); err != api.ErrNone {
			t.Errorf("Leave(%d) of nobody is %d", n, err)
		}
	}
	p.ticks(0, 0)
	p.add(1, 3, 9)
	p.add(3, 2, 8)
	p.at(1, 3, 13, false)
	p.at(3, 2, 12, false)
	p.ticks(3, 3, 1, 1, 1, 0)
}

// Nobody is filled up after it left, and the others stay as they are.
func TestLeaveOfAThrottledTask(t *testing.T) {
	p := begin(t)
	p.add(4, 1, 2)
	p.add(5, 3, 9)
	p.ticks(4)
	p.leave(4)
	p.at(5, 3, 9, false)
	p.ticks(5, 5, 5, 0, 0, 0, 0)
	p.none(4)
	p.at(5, 0, 9, true)
	p.ticks(0, 5)
}

func TestBlockAndWakeErrors(t *testing.T) {
	p := begin(t)
	p.add(1, 1, 3)
	p.add(2, 2, 4)
	check := func(what string, got, want api.Errno) {
		t.Helper()
		if got != want {
			t.Errorf("%s is %d, not %d", what, got, want)
		}
		p.same()
	}
	for n := 3; n <= 16; n++ {
		p.none(n)
	}
	for _, n := range badNumbers {
		p.none(n)
	}
	for range 7 {
		for n := 1; n <= 2; n++ {
			check("Wake of a ready task", p.wake(n), api.ErrState)
			check("Block", p.block(n), api.OK)
			check("Block of a blocked task", p.block(n), api.ErrState)
			check("Wake", p.wake(n), api.OK)
			check("Wake of a ready task", p.wake(n), api.ErrState)
		}
		p.tick()
	}
}

// A blocked task does not run, and keeps what it has.
func TestBlock(t *testing.T) {
	p := begin(t)
	p.add(1, 2, 4)
	p.add(2, 3, 8)
	p.ticks(1)
	p.block(1)
	p.at(1, 1, 4, false)
	p.ticks(2, 2, 2, 0, 0)
	p.at(1, 1, 4, false)
	p.at(2, 0, 8, true)
	p.block(2)
	if _, err := p.d.Pick(); err != api.ErrNone {
		t.Errorf("Pick of blocked tasks is %d", err)
	}
	p.ticks(0, 0)
	p.at(1, 1, 4, false)
	p.at(2, 3, 16, false)
}

// With budget 2 in 6 ticks, one tick that is left may be kept until 3 ticks ahead of the deadline.
func TestWakeKeepsWhatFits(t *testing.T) {
	for _, c := range []struct{ now, left, due int }{
		// 1*6 is not greater than 2*3, but than 2*2; 6 is the deadline.
		{1, 1, 6}, {2, 1, 6}, {3, 1, 6}, {4, 2, 10}, {5, 2, 11}, {6, 2, 12}, {7, 2, 13}, {40, 2, 46},
	} {
		p := begin(t)
		p.add(1, 2, 6)
		p.ticks(1)
		p.block(1)
		p.passes(c.now - 1)
		p.at(1, 1, 6, false)
		if err := p.wake(1); err != api.OK {
			t.Errorf("Wake is %d", err)
		}
		p.at(1, c.left, c.due, false)
	}
}

// A whole budget that waited at all is as good as a new one.
func TestWakeWithAWholeBudget(t *testing.T) {
	p := begin(t)
	p.add(3, 2, 5)
	p.block(3)
	p.wake(3)
	p.at(3, 2, 5, false)
	p.block(3)
	p.passes(1)
	p.at(3, 2, 5, false)
	p.wake(3)
	p.at(3, 2, 6, false)
	p.ticks(3, 3, 0, 0, 0, 3)
}

// Every budget and period, whatever was used of it, woken up at every time:
// what is left may go to at most the same part of the ticks until the deadline.
func TestWakeOfEveryReservation(t *testing.T) {
	for _, period := range []int{1, 2, 5, 6, 12, 29, 30} {
		for budget := 1; budget <= period; budget++ {
			for used := range budget {
				for _, now := range []int{used, used + 1, period / 2, period - 2, period - 1, period, period + 1} {
					if now < used {
						continue
					}
					p := begin(t)
					p.add(1, budget, period)
					for range used {
						p.tick()
					}
					p.block(1)
					for range now - used {
						p.pass()
					}
					p.wake(1)
					left, due := budget-used, period
					if now >= due || float64(left)/float64(due-now) > float64(budget)/float64(period)+1e-9 {
						left, due = budget, now+period
					}
					p.at(1, left, due, false)
				}
			}
		}
	}
}

// A throttled task wakes up throttled; it waits for its deadline like any other.
func TestWakeOfAThrottledTask(t *testing.T) {
	p := begin(t)
	p.add(1, 1, 5)
	p.ticks(1)
	p.block(1)
	p.passes(2)
	if err := p.wake(1); err != api.OK {
		t.Errorf("Wake of a throttled task is %d", err)
	}
	p.at(1, 0, 5, true)
	p.ticks(0, 0, 1)
	p.at(1, 0, 10, true)
}

// The deadline comes while the task is blocked: it has a new budget then, and it may be stale when it wakes up.
func TestReplenishedWhileBlocked(t *testing.T) {
	for _, c := range []struct{ now, left, due int }{
		{4, 0, 5}, {5, 2, 10}, {6, 2, 11}, {9, 2, 14}, {10, 2, 15}, {17, 2, 22},
	} {
		p := begin(t)
		p.add(1, 2, 5)
		p.ticks(1, 1)
		p.block(1)
		p.passes(c.now - 2)
		if c.now >= 5 {
			p.at(1, 2, 10, false)
		}
		p.wake(1)
		p.at(1, c.left, c.due, c.now < 5)
	}
}

// The earliest deadline goes first, and then the smallest number.
func TestPickOrder(t *testing.T) {
	p := begin(t)
	p.add(9, 1, 20)
	p.add(4, 1, 20)
	p.add(16, 1, 19)
	p.add(1, 1, 21)
	p.add(7, 1, 20)
	p.ticks(16, 4, 7, 9, 1, 0)
	// A deadline is absolute: who came later with a shorter period may go later.
	p = begin(t)
	p.add(1, 1, 10)
	p.passes(5)
	p.add(2, 1, 6)
	p.add(3, 1, 4)
	p.add(4, 1, 5)
	p.ticks(3, 1, 4, 2, 3, 4, 2, 1)
}

// Who has been charged goes on, unless somebody with an earlier deadline comes.
func TestPickAmongThoseThatCome(t *testing.T) {
	p := begin(t)
	p.add(2, 3, 10)
	p.ticks(2)
	p.add(1, 1, 9) // the deadline 10, too
	p.ticks(1, 2)
	p.add(3, 1, 6) // 9
	p.block(3)
	p.ticks(2)
	p.wake(3)
	p.at(3, 1, 10, false)
	p.ticks(3, 0)
}

func TestPickChangesNothing(t *testing.T) {
	p := begin(t)
	p.add(2, 1, 3)
	p.add(1, 2, 5)
	for _, want := range []int{2, 1, 1, 2, 0, 1, 2, 1, 0, 2} {
		for range 3 {
			got, err := p.d.Pick()
			if want == 0 && (got != 0 || err != api.ErrNone) || want != 0 && (got != want || err != api.OK) {
				t.Errorf("Pick is %d, %d, not %d", got, err, want)
			}
		}
		p.ticks(want)
	}
}

// Only the task that uses a tick has less left; it is throttled with its last one.
func TestTickCharges(t *testing.T) {
	p := begin(t)
	p.add(1, 3, 8)
	p.add(2, 2, 9)
	p.ticks(1)
	p.at(1, 2, 8, false)
	p.at(2, 2, 9, false)
	p.ticks(1)
	p.at(1, 1, 8, false)
	p.ticks(1)
	p.at(1, 0, 8, true)
	p.at(2, 2, 9, false)
	p.ticks(2, 2)
	p.at(2, 0, 9, true)
	p.ticks(0, 0)
	p.at(1, 0, 8, true)
	p.ticks(0)
	p.at(1, 3, 16, false)
	p.at(2, 0, 9, true)
	p.ticks(1)
	p.at(2, 2, 18, false)
}

// A tick that passes is used by nobody, but it is one for the deadlines.
func TestPass(t *testing.T) {
	p := begin(t)
	p.add(1, 1, 3)
	p.add(2, 1, 4)
	p.passes(1)
	p.at(1, 1, 3, false)
	p.at(2, 1, 4, false)
	p.ticks(1)
	p.at(1, 0, 3, true)
	p.passes(1)
	p.at(1, 1, 6, false)
	p.at(2, 1, 4, false)
}

// A task that still has some of its budget keeps its deadline when that is past.
func TestDeadlinePasses(t *testing.T) {
	p := begin(t)
	p.add(1, 2, 3)
	p.passes(5)
	p.at(1, 2, 3, false)
	p.add(2, 1, 1)
	// The deadline 3 is ahead of 6, though both are behind, or near.
	p.ticks(1)
	p.at(1, 1, 3, false)
	p.at(2, 1, 6, false)
	// With the last tick it is throttled, and filled up at once.
	p.ticks(1)
	p.at(1, 2, 6, false)
}

// A deadline increases by one period at a time, even if it stays in the past.
func TestDeadlineLongPast(t *testing.T) {
	p := begin(t)
	p.add(1, 1, 3)
	p.passes(20)
	for i := 1; i <= 8; i++ {
		// 6, 9, 12 and so on, until one is later than the time.
		p.ticks(1)
		p.at(1, 1, 3+3*i, false)
	}
	// The time is 28, and the deadline 27 is the last one that is past when its period begins.
	p.ticks(1)
	p.at(1, 1, 30, false)
	p.ticks(1)
	p.at(1, 1, 33, false)
	p.ticks(1)
	p.at(1, 0, 33, true)
}

// With the budget of a whole period, a task is filled up by the tick that it ends with.
func TestWholePeriods(t *testing.T) {
	for _, period := range []int{1, 2, 30} {
		p := begin(t)
		p.add(1, period, period)
		for n := 1; n <= 3*period; n++ {
			p.ticks(1)
			p.at(1, period-n%period, (n/period+1)*period, false)
		}
	}
}

// The order is by the deadlines that a tick begins with: who is filled up by it runs in the next one.
func TestReplenishedAfterTheTick(t *testing.T) {
	p := begin(t)
	p.add(1, 1, 2)
	p.add(2, 9, 30)
	p.ticks(1, 2, 1, 2, 1)
	// Tasks whose deadlines come together are all filled up.
	p = begin(t)
	p.add(1, 1, 6)
	p.add(2, 1, 6)
	p.add(3, 1, 3)
	p.ticks(3, 1, 2, 3, 0, 0)
	p.at(1, 1, 12, false)
	p.at(2, 1, 12, false)
	p.at(3, 1, 9, false)
}

// Time goes on for long.
func TestLateTimes(t *testing.T) {
	d := New()
	const late = 1 << 22
	for range late {
		d.Pass()
	}
	d.Add(16, 2, 30)
	for i, want := range []int{16, 16, 0} {
		if got := d.Tick(); got != want || d.Now() != late+i+1 {
			t.Errorf("the tick %d is used by %d, and Now is %d", i, got, d.Now())
		}
	}
	if got := stateOf(d.At(16)); got != (state{0, late + 30, true, api.OK}) {
		t.Errorf("At is %v", got)
	}
}

func TestDeadsAreIndependent(t *testing.T) {
	p, q := begin(t), begin(t)
	p.add(1, 1, 3)
	p.ticks(1)
	q.empty()
	q.add(1, 2, 4)
	q.add(2, 1, 3)
	q.ticks(2, 1, 1, 2)
	p.ticks(0, 0, 1)
	q.same()
	p.same()
}

// An error is told, and nothing else happens.
func TestErrorsChangeNothing(t *testing.T) {
	p := begin(t)
	p.add(1, 2, 5)
	p.add(2, 3, 7)
	p.add(3, 1, 4)
	p.block(2)
	errors := []struct {
		call func() api.Errno
		want api.Errno
	}{
		{func() api.Errno { return p.add(17, 1, 1) }, api.ErrArg},
		{func() api.Errno { return p.add(4, 1, 31) }, api.ErrArg},
		{func() api.Errno { return p.add(4, 3, 2) }, api.ErrArg},
		{func() api.Errno { return p.add(1, 0, 5) }, api.ErrArg},
		{func() api.Errno { return p.add(1, 1, 1) }, api.ErrThere},
		{func() api.Errno { return p.add(2, 1, 1) }, api.ErrThere},
		{func() api.Errno { return p.leave(4) }, api.ErrNone},
		{func() api.Errno { return p.block(4) }, api.ErrNone},
		{func() api.Errno { return p.wake(4) }, api.ErrNone},
		{func() api.Errno { return p.block(2) }, api.ErrState},
		{func() api.Errno { return p.wake(1) }, api.ErrState},
	}
	for range 40 {
		p.tick()
		for i, e := range errors {
			if got := e.call(); got != e.want {
				t.Errorf("the call %d is %d, not %d", i, got, e.want)
			}
			p.same()
		}
	}
}
