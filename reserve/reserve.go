// Package reserve: ticks that a task may have in each of its periods. Packages
// dead and spread count them by the same rules, each with a time of its own.
package reserve

// Reserve of a task.
type Reserve struct {
	Budget, Period int  // so many ticks in each period
	Left, Due      int  // ticks that are left, until the deadline
	Throttled      bool // none are left
}

// New reserve: its whole budget, in a period that starts at a time.
func New(budget, period, start int) Reserve {
	x := Reserve{Budget: budget, Period: period}
	x.fill(start)
	return x
}

// Use a tick of the budget, if one is left.
func (x *Reserve) Use() {
	if !x.Throttled {
		x.Left--
		x.Throttled = x.Left == 0
	}
}

// Wake a task at a time; it has a new budget, if what it has left is more than it may have by its deadline.
func (x *Reserve) Wake(now int) {
	if !x.Throttled && x.stale(now) {
		x.fill(now)
	}
}

// Pass on to a time: a throttled task whose deadline has come has a new budget.
func (x *Reserve) Pass(now int) {
	if x.Throttled && x.Due <= now {
		// The next period starts where the last one ended, even if that is past:
		// a task that was kept waiting has no later deadlines for it.
		x.fill(x.Due)
	}
}

// fill the budget for a period that starts at a time.
func (x *Reserve) fill(start int) {
	x.Left = x.Budget
	x.Due = start + x.Period
	x.Throttled = false
}

// stale tells whether what is left can't be used until the deadline without
// more of the processor than the task reserved: left in the ticks that remain
// is more than its budget in a period.
func (x *Reserve) stale(now int) bool {
	return now >= x.Due || x.Left*x.Period > x.Budget*(x.Due-now)
}
