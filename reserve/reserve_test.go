package reserve

import "testing"

func (x Reserve) check(t *testing.T, left, due int, throttled bool) {
	t.Helper()
	if x.Left != left || x.Due != due || x.Throttled != throttled {
		t.Errorf("%d ticks are left until %d, and throttled is %t, not %d, %d and %t", x.Left, x.Due, x.Throttled, left, due, throttled)
	}
}

func TestUse(t *testing.T) {
	x := New(2, 5, 7)
	if x.Budget != 2 || x.Period != 5 {
		t.Errorf("it is %d in %d", x.Budget, x.Period)
	}
	x.check(t, 2, 12, false)
	x.Use()
	x.check(t, 1, 12, false)
	x.Use()
	x.check(t, 0, 12, true)
	x.Use()
	x.check(t, 0, 12, true)
}

// A new budget comes at the deadline, and only for who has used up the old one;
// its deadline is counted from the last one, whatever the time is.
func TestPass(t *testing.T) {
	x := New(1, 5, 7)
	x.Pass(100)
	x.check(t, 1, 12, false)
	x.Use()
	x.Pass(11)
	x.check(t, 0, 12, true)
	x.Pass(12)
	x.check(t, 1, 17, false)
	x.Use()
	x.Pass(30)
	x.check(t, 1, 22, false)
	x.Use()
	x.Pass(30)
	x.check(t, 1, 27, false)
}

// What is left, 2 of 4 ticks in 12, is not more than 4/12 of the processor for
// 6 ticks, and more for 5; at the deadline nothing can be left.
func TestWake(t *testing.T) {
	used := New(4, 12, 0)
	used.Use()
	used.Use()
	for now := range 15 {
		x := used
		x.Wake(now)
		if now <= 6 {
			x.check(t, 2, 12, false)
		} else {
			x.check(t, 4, now+12, false)
		}
	}
	used.Use()
	used.Use()
	used.Wake(100)
	used.check(t, 0, 12, true)
}
