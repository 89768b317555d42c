package wheel

import (
	"math"
	"slices"
	"testing"

	"ringhall/api"
)

// Times close to the places where the counter, or the sign of a distance, turns.
var corners = []uint32{0, 1, 2, 1<<30 - 1, 1 << 30, 1<<31 - 2, 1<<31 - 1, 1 << 31, 1<<31 + 1, 3 << 30, 1<<32 - 2, 1<<32 - 1}

// Distances at the limits of what is not past.
const (
	farthest = 1<<31 - 1
	half     = 1 << 31
)

func TestNew(t *testing.T) {
	for _, now := range corners {
		begin(t, now).empty()
	}
}

// A Wheel that New did not make is empty, and can be filled; its time is 0.
func TestWheelWithoutNew(t *testing.T) {
	p := begin(t, 0)
	p.w = new(Wheel)
	p.empty()
	p.add(1<<32-1, 1)
	p.add(farthest, 2)
	p.add(0, 3)
	p.drain()
}

func TestExampleOfTheDocument(t *testing.T) {
	w := New(4294967280)
	if err := w.Add(5, 1); err != api.OK {
		t.Errorf("Add is %d", err)
	}
	for tick := range uint32(20) {
		if due, err := w.Step(4294967281 + tick); len(due) != 0 || err != api.OK {
			t.Errorf("the step %d is %d, %d", tick, due, err)
		}
	}
	if due, err := w.Step(5); !slices.Equal(due, []int{1}) || err != api.OK {
		t.Errorf("the last step is %d, %d", due, err)
	}
}

// No model here: these errors are the document's, case by case.
func TestErrors(t *testing.T) {
	w := New(100)
	w.Add(100, 1)
	for i, c := range []struct{ got, want api.Errno }{
		{w.Add(100, 1), api.ErrThere},
		{w.Add(300, 1), api.ErrThere},
		{w.Add(99, 1), api.ErrThere},
		{w.Add(99, 2), api.ErrArg},
		{w.Add(100+half, 2), api.ErrArg},
		{w.Out(2), api.ErrNone},
		{w.Out(1), api.OK},
		{w.Out(1), api.ErrNone},
		{w.Add(99, 1), api.ErrArg},
	} {
		if c.got != c.want {
			t.Errorf("the error %d is %d, not %d", i, c.got, c.want)
		}
	}
	if at, err := w.Next(); at != 0 || err != api.ErrNone {
		t.Errorf("Next is %d, %d", at, err)
	}
	if due, err := w.Step(99); due != nil || err != api.ErrArg {
		t.Errorf("Step is %d, %d", due, err)
	}
}

// A timer may expire now, and up to farthest ticks from now.
func TestBoundsOfAdd(t *testing.T) {
	for _, now := range corners {
		for _, wait := range []uint32{0, 1, 2, 1 << 30, farthest - 1, farthest} {
			p := begin(t, now)
			if err := p.add(now+wait, 1); err != api.OK {
				t.Errorf("at %d, Add in %d ticks is %d", now, wait, err)
			}
			p.drain()
		}
		p := begin(t, now)
		for _, wait := range []uint32{half, half + 1, 3 << 30, 1<<32 - 2, 1<<32 - 1} {
			if err := p.add(now+wait, 1); err != api.ErrArg {
				t.Errorf("at %d, Add in %d ticks is %d", now, wait, err)
			}
		}
		p.empty()
	}
}

func TestBoundsOfStep(t *testing.T) {
	for _, now := range corners {
		for _, wait := range []uint32{0, 1, 2, 1 << 30, farthest - 1, farthest} {
			if due, err := begin(t, now).step(now + wait); len(due) != 0 || err != api.OK {
				t.Errorf("at %d, a step of %d ticks is %d, %d", now, wait, due, err)
			}
		}
		p := begin(t, now)
		p.add(now, 1)
		p.add(now+farthest, 2)
		for _, wait := range []uint32{half, half + 1, 3 << 30, 1<<32 - 2, 1<<32 - 1} {
			if due, err := p.step(now + wait); due != nil || err != api.ErrArg {
				t.Errorf("at %d, a step of %d ticks is %d, %d", now, wait, due, err)
			}
		}
		p.drain()
	}
}

// All corners are times for Add and Step at all corners, past or not.
func TestAllCorners(t *testing.T) {
	for _, now := range corners {
		for _, to := range corners {
			p := begin(t, now)
			for id, at := range corners {
				p.add(at, -id)
			}
			p.step(to)
			for id, at := range corners {
				p.add(at, -id)
			}
			p.drain()
		}
	}
}

// What is past depends on the current time, which goes on with each Step that is no error.
func TestStepSetsTheTime(t *testing.T) {
	p := begin(t, 1<<32-3)
	p.step(4)
	if p.add(3, 1) != api.ErrArg || p.add(1<<32-1, 1) != api.ErrArg || p.add(4, 1) != api.OK || p.add(4+farthest, 2) != api.OK {
		t.Error("Step does not set the time")
	}
	if _, err := p.step(3); err != api.ErrArg {
		t.Errorf("Step(3) is %d", err)
	}
	if p.add(3, 3) != api.ErrArg || p.add(5+farthest, 3) != api.ErrArg || p.add(4, 3) != api.OK {
		t.Error("a Step that is an error sets the time")
	}
	p.drain()
}

// A timer for the current time expires as soon as there is a step, even of no tick.
func TestStepOfNoTick(t *testing.T) {
	for _, now := range corners {
		p := begin(t, now)
		p.add(now, 2)
		p.add(now+1, 1)
		if due, _ := p.step(now); !slices.Equal(due, []int{2}) {
			t.Errorf("at %d, %d are due", now, due)
		}
		p.drain()
	}
}

func TestOrder(t *testing.T) {
	p := begin(t, 1<<32-2)
	for _, x := range []struct {
		at uint32
		id int
	}{
		{1, 5}, {0, 9}, {1, -5}, {1<<32 - 1, 7}, {1, math.MinInt}, {1 << 30, 0}, {1, math.MaxInt}, {1<<32 - 2, 8}, {1, -1}, {2, 3},
	} {
		p.add(x.at, x.id)
	}
	if due, err := p.step(1); !slices.Equal(due, []int{8, 7, 9, math.MinInt, -5, -1, 5, math.MaxInt}) || err != api.OK {
		t.Errorf("Step is %d, %d", due, err)
	}
	if due, err := p.step(1 << 30); !slices.Equal(due, []int{3, 0}) || err != api.OK {
		t.Errorf("Step is %d, %d", due, err)
	}
	p.empty()
}

// A timer that could not be added leaves the one with its ID as it was.
func TestAddAgain(t *testing.T) {
	p := begin(t, 10)
	p.add(20, 1)
	for _, at := range []uint32{9, 10, 15, 20, 25, 10 + half} {
		if err := p.add(at, 1); err != api.ErrThere {
			t.Errorf("Add(%d, 1) is %d", at, err)
		}
	}
	if due, _ := p.step(19); len(due) != 0 {
		t.Errorf("%d are due", due)
	}
	if due, _ := p.step(30); !slices.Equal(due, []int{1}) {
		t.Errorf("%d are due", due)
	}
	p.empty()
}

// An ID is free again when its timer has been removed, or has expired.
func TestAddWhatHasGone(t *testing.T) {
	p := begin(t, 1<<32-5)
	p.add(3, 1)
	p.add(1, 2)
	if p.out(1) != api.OK || p.add(7, 1) != api.OK {
		t.Error("a removed timer can't be added again")
	}
	p.step(2)
	if p.out(2) != api.ErrNone || p.add(6, 2) != api.OK {
		t.Error("an expired timer can't be added again")
	}
	p.drain()
}

// A removed timer never expires, and Next is the next one's then.
func TestOut(t *testing.T) {
	for gone := range 5 {
		p := begin(t, 1<<32-2)
		for id := range 5 {
			p.add(1<<32-2+uint32(3*id%5), id)
		}
		if err := p.out(gone); err != api.OK {
			t.Errorf("Out(%d) is %d", gone, err)
		}
		if err := p.out(gone); err != api.ErrNone {
			t.Errorf("Out(%d) again is %d", gone, err)
		}
		p.drain()
	}
}

func TestNextChangesNothing(t *testing.T) {
	p := begin(t, 5)
	p.add(8, 1)
	p.add(8, 2)
	for range 5 {
		if at, err := p.next(); at != 8 || err != api.OK {
			t.Errorf("Next is %d, %d", at, err)
		}
	}
	p.drain()
}

// A timer for the time 0 is told from none by the error alone.
func TestNextIsZero(t *testing.T) {
	p := begin(t, 1<<32-1)
	p.add(0, 0)
	if at, err := p.w.Next(); at != 0 || err != api.OK {
		t.Errorf("Next is %d, %d", at, err)
	}
	p.drain()
}

func TestWheelsAreIndependent(t *testing.T) {
	p, q := begin(t, 7), begin(t, 1<<32-7)
	p.add(9, 1)
	q.add(9, 1)
	q.add(10, 2)
	p.step(9)
	p.empty()
	q.next()
	q.drain()
}

// What a caller does with a result, and with the spare memory behind it, does
// not change the wheel, nor another result.
func TestResultsAreIndependent(t *testing.T) {
	p := begin(t, 0)
	for id := range 8 {
		p.add(uint32(id/5), id)
	}
	first, _ := p.w.Step(0)
	p.m.step(0)
	spoil(first)
	second, _ := p.w.Step(1)
	spoil(first)
	if !slices.Equal(second, []int{5, 6, 7}) {
		t.Errorf("the second result is %d", second)
	}
	spoil(second)
	if !slices.Equal(first, []int{99, 99, 99, 99, 99}) {
		t.Errorf("the first result is %d", first)
	}
}

// spoil overwrites a result, and the spare memory behind it.
func spoil(l []int) {
	l = l[:cap(l)]
	for i := range l {
		l[i] = 99
	}
}
