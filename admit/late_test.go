package admit

import (
	"math"
	"testing"

	"ringhall/api"
)

// The counts are written down by hand, tick by tick.
func TestLate(t *testing.T) {
	for _, c := range []struct {
		l           []Use
		ticks, want int
	}{
		{nil, 0, 0},
		{nil, 2000, 0},
		{uses(1, 1), 2000, 0},
		{uses(30, 30), 2000, 0},
		// The second one never goes, and is late at each of its multiples.
		{uses(1, 1, 1, 1), 0, 0},
		{uses(1, 1, 1, 1), 1, 1},
		{uses(1, 1, 1, 1), 2000, 2000},
		{uses(1, 1, 1, 3), 2, 0},
		{uses(1, 1, 1, 3), 3, 1},
		{uses(1, 1, 1, 3), 5, 1},
		{uses(1, 1, 1, 3), 2000, 666},
		{of(16, 1, 1), 2000, 15 * 2000},
		{of(16, 30, 30), 2000, 15 * 66},
		// All of the processor is used, and nobody is late.
		{uses(1, 2, 1, 3, 1, 6), 2000, 0},
		{uses(2, 4, 5, 10), 2000, 0},
		{uses(1, 3, 2, 5, 4, 15), 2000, 0},
		// AABBAAAABBAAAAB is how they go; B lacks a tick at 15, where all begins anew.
		{uses(2, 3, 2, 5), 14, 0},
		{uses(2, 3, 2, 5), 15, 1},
		{uses(2, 3, 2, 5), 29, 1},
		{uses(2, 3, 2, 5), 30, 2},
	} {
		isLate(t, c.l, c.ticks, c.want)
	}
}

// Among equal deadlines the first one of the list goes on: either two short jobs are done, or a long one.
func TestLateAmongEqualDeadlines(t *testing.T) {
	isLate(t, uses(1, 3, 1, 3, 3, 3), 3, 1)
	isLate(t, uses(1, 3, 3, 3, 1, 3), 3, 2)
	isLate(t, uses(3, 3, 1, 3, 1, 3), 3, 2)
	isLate(t, uses(1, 3, 1, 3, 3, 3), 30, 10)
	isLate(t, uses(3, 3, 1, 3, 1, 3), 30, 20)
	isLate(t, uses(1, 2, 3, 6, 1, 6), 6, 1)
	// BCBCAA: A goes as soon as no deadline is ahead of its own, though B and C have shorter periods.
	isLate(t, uses(6, 6, 1, 2, 1, 2), 6, 3)
}

// The next multiple counts, not the period, nor the cost: a long period may end sooner than a short one.
func TestLateByDeadlines(t *testing.T) {
	// AABBB, and at 5 B goes on, as 7 is ahead of 10; by the shorter period first, B would be late at 7.
	isLate(t, uses(2, 5, 4, 7), 35, 0)
	isLate(t, uses(4, 7, 2, 5), 35, 0)
	isLate(t, uses(2, 3, 1, 4), 12, 0)
	isLate(t, uses(1, 3, 2, 4), 12, 0)
}

// What is late is thrown away: it takes no tick from the next job.
func TestLateJobsAreDiscarded(t *testing.T) {
	// AABAAA: A lacks a tick at 4. On top of its next job, that would make it late at 6, too, where B is.
	isLate(t, uses(2, 2, 1, 3), 3, 0)
	isLate(t, uses(2, 2, 1, 3), 4, 1)
	isLate(t, uses(2, 2, 1, 3), 5, 1)
	isLate(t, uses(2, 2, 1, 3), 6, 2)
	isLate(t, uses(2, 2, 1, 3), 12, 4)
	// AAABBAAAAAAB: B has one of its second two ticks at 12, and a whole job before it then.
	isLate(t, uses(3, 4, 2, 6), 4, 0)
	isLate(t, uses(3, 4, 2, 6), 6, 0)
	isLate(t, uses(3, 4, 2, 6), 8, 0)
	isLate(t, uses(3, 4, 2, 6), 12, 1)
	isLate(t, uses(3, 4, 2, 6), 24, 2)
}

// The processor may have nothing to do.
func TestLateWaits(t *testing.T) {
	isLate(t, uses(1, 30), 2000, 0)
	isLate(t, uses(29, 30), 2000, 0)
	isLate(t, uses(2, 12, 3, 8), 2000, 0)
}

// Every short list, at every time.
func TestLateOfEveryShortList(t *testing.T) {
	for _, l := range allLists(3, 4) {
		for ticks := range 26 {
			isLate(t, l, ticks, wantLate(l, ticks))
		}
	}
	for _, l := range allLists(2, 8) {
		for _, ticks := range []int{7, 29, 56, 57} {
			isLate(t, l, ticks, wantLate(l, ticks))
		}
	}
}

func TestLateOfMany(t *testing.T) {
	c := chance(88)
	for _, l := range someLists() {
		for _, ticks := range []int{c.below(31), c.below(301), 2000} {
			isLate(t, l, ticks, wantLate(l, ticks))
		}
	}
}

// Nobody is late exactly if all fit, as no order does better than this one: if
// they don't, somebody is late until all periods end together.
func TestLateIfTheyDontFit(t *testing.T) {
	for _, l := range append(allLists(3, 6), someLists()...) {
		n, _ := Round(l)
		if n > 2000 {
			continue
		}
		fits, _ := Fits(l, 1)
		late, err := Late(l, n)
		if err != api.OK || fits != (late == 0) {
			t.Errorf("Late(%v, %d) is %d, %d, and Fits is %t", l, n, late, err, fits)
		}
		if fits {
			isLate(t, l, 2000, 0)
		}
	}
}

// A job that is late counts at the tick that its period ends with, and no sooner.
func TestLateTickByTick(t *testing.T) {
	l := uses(2, 3, 3, 4, 2, 5, 1, 30)
	before := 0
	for ticks := 0; ticks <= 2000; ticks++ {
		late, err := Late(l, ticks)
		ends := 0
		for _, u := range l {
			if ticks > 0 && ticks%u.Period == 0 {
				ends++
			}
		}
		if err != api.OK || late < before || late > before+ends || late != wantLate(l, ticks) {
			t.Fatalf("Late at %d is %d, %d, and it was %d", ticks, late, err, before)
		}
		before = late
	}
}

func TestLateOfBadTicks(t *testing.T) {
	for _, l := range [][]Use{nil, uses(1, 2), of(16, 30, 30), wide()} {
		for _, ticks := range []int{math.MinInt, math.MinInt + 1, -1 << 32, -2000, -1, 2001, 2002, 4096, 100000, 1<<32 + 1, 1<<60 + 2, math.MaxInt} {
			if n, err := Late(l, ticks); n != 0 || err != api.ErrArg {
				t.Errorf("Late(%v, %d) is %d, %d", l, ticks, n, err)
			}
		}
		isLate(t, l, 0, 0)
	}
}
