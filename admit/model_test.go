package admit

import (
	"math"
	"math/big"
	"testing"

	"ringhall/api"
)

// Numbers that are no period, and no cost in any period: just outside the
// bounds, far outside, and such that come into the bounds when they are cut to
// fewer bits, or negated.
var badTimes = []int{math.MinInt, math.MinInt + 1, -1 << 32, -30, -1, 0, 31, 32, 257, 1<<32 + 1, 1<<60 + 2, math.MaxInt}

// uses makes a list of costs and periods, by turns.
func uses(row ...int) []Use {
	var l []Use
	for i := 0; i+1 < len(row); i += 2 {
		l = append(l, Use{Cost: row[i], Period: row[i+1]})
	}
	return l
}

// of makes a list of so many equal tasks.
func of(long, cost, period int) []Use {
	l := make([]Use, long)
	for i := range l {
		l[i] = Use{Cost: cost, Period: period}
	}
	return l
}

// allUses are the tasks with a period up to one.
func allUses(most int) []Use {
	var l []Use
	for period := 1; period <= most; period++ {
		for cost := 1; cost <= period; cost++ {
			l = append(l, Use{Cost: cost, Period: period})
		}
	}
	return l
}

// allLists are the lists of up to so many tasks, with periods up to one.
func allLists(long, most int) [][]Use {
	lists := [][]Use{nil}
	for from := 0; long > 0; long-- {
		longest := lists[from:]
		from = len(lists)
		for _, l := range longest {
			for _, u := range allUses(most) {
				lists = append(lists, append(l[:len(l):len(l)], u))
			}
		}
	}
	return lists
}

// chance is a row of numbers that look as if they came by chance.
type chance uint64

func (c *chance) below(n int) int {
	*c = *c*6364136223846793005 + 1442695040888963407
	return int(uint64(*c)>>33) % n
}

// some makes a list of so many tasks, which use a part of their periods.
func (c *chance) some(long, most, part int) []Use {
	var l []Use
	for range long {
		period := 1 + c.below(most)
		l = append(l, Use{Cost: 1 + c.below(1+(period-1)/part), Period: period})
	}
	return l
}

// someLists are lists of 0 to 16 tasks, of little use and of much.
func someLists() [][]Use {
	c := chance(8)
	var lists [][]Use
	for range 10 {
		for long := range 17 {
			for _, most := range []int{6, 30} {
				for _, part := range []int{1, 4, 30} {
					lists = append(lists, c.some(long, most, part))
				}
			}
		}
	}
	return lists
}

// wantRound is the least number that all periods divide: each prime's greatest
// power in any of them.
func wantRound(l []Use) int {
	all := 1
	for _, prime := range []int{2, 3, 5, 7, 11, 13, 17, 19, 23, 29} {
		most := 1
		for _, u := range l {
			power := 1
			for u.Period%(power*prime) == 0 {
				power *= prime
			}
			most = max(most, power)
		}
		all *= most
	}
	return all
}

// wantShare is the sum of all fractions, with numbers of any length.
func wantShare(l []Use) *big.Rat {
	sum := new(big.Rat)
	for _, u := range l {
		sum.Add(sum, big.NewRat(int64(u.Cost), int64(u.Period)))
	}
	return sum
}

// wantDemand counts the deadlines one by one, up to the last one.
func wantDemand(l []Use, t int) int {
	sum := 0
	for _, u := range l {
		for due := u.Period; due <= t; due += u.Period {
			sum += u.Cost
		}
	}
	return sum
}

// wantLate writes down all jobs that are ever released, and what each of them
// needs; job k of a task is there from k periods on until k+1 periods.
func wantLate(l []Use, ticks int) int {
	need := make([][]int, len(l))
	for i, u := range l {
		for at := 0; at <= ticks; at += u.Period {
			need[i] = append(need[i], u.Cost)
		}
	}
	for now := range ticks {
		var job *int
		least := math.MaxInt
		for i, u := range l {
			k := now / u.Period
			if deadline := (k + 1) * u.Period; need[i][k] != 0 && deadline < least {
				job, least = &need[i][k], deadline
			}
		}
		if job != nil {
			*job--
		}
	}
	misses := 0
	for i, u := range l {
		for k, n := range need[i] {
			if (k+1)*u.Period <= ticks && n != 0 {
				misses++
			}
		}
	}
	return misses
}

// isShare checks a sum of all uses, and that it is in lowest terms.
func isShare(t *testing.T, l []Use, want *big.Rat) {
	t.Helper()
	a, b, err := Share(l)
	if err != api.OK || b < 1 || int64(a) != want.Num().Int64() || int64(b) != want.Denom().Int64() {
		t.Errorf("Share(%v) is %d, %d, %d, not %s", l, a, b, err, want)
	}
}

func isRound(t *testing.T, l []Use, want int) {
	t.Helper()
	if n, err := Round(l); n != want || err != api.OK {
		t.Errorf("Round(%v) is %d, %d, not %d", l, n, err, want)
	}
}

func isFit(t *testing.T, l []Use, cpus int, want bool) {
	t.Helper()
	if fits, err := Fits(l, cpus); fits != want || err != api.OK {
		t.Errorf("Fits(%v, %d) is %t, %d, not %t", l, cpus, fits, err, want)
	}
}

func isDemand(t *testing.T, l []Use, span, want int) {
	t.Helper()
	if n, err := Demand(l, span); n != want || err != api.OK {
		t.Errorf("Demand(%v, %d) is %d, %d, not %d", l, span, n, err, want)
	}
}

func isLate(t *testing.T, l []Use, ticks, want int) {
	t.Helper()
	if n, err := Late(l, ticks); n != want || err != api.OK {
		t.Errorf("Late(%v, %d) is %d, %d, not %d", l, ticks, n, err, want)
	}
}

// fails checks that all functions tell the error of Check, with nothing
// beside it, whatever their other argument is.
func fails(t *testing.T, l []Use, want api.Errno) {
	t.Helper()
	if err := Check(l); err != want {
		t.Errorf("Check(%v) is %d, not %d", l, err, want)
	}
	if n, err := Round(l); n != 0 || err != want {
		t.Errorf("Round(%v) is %d, %d, not %d", l, n, err, want)
	}
	if a, b, err := Share(l); a != 0 || b != 0 || err != want {
		t.Errorf("Share(%v) is %d, %d, %d, not %d", l, a, b, err, want)
	}
	for _, n := range []int{1, 4, 7, 0, 5, -1, 2001, 100001, math.MinInt, math.MaxInt} {
		if fits, err := Fits(l, n); fits || err != want {
			t.Errorf("Fits(%v, %d) is %t, %d, not %d", l, n, fits, err, want)
		}
		if sum, err := Demand(l, n); sum != 0 || err != want {
			t.Errorf("Demand(%v, %d) is %d, %d, not %d", l, n, sum, err, want)
		}
		if late, err := Late(l, n); late != 0 || err != want {
			t.Errorf("Late(%v, %d) is %d, %d, not %d", l, n, late, err, want)
		}
	}
}
