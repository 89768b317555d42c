package spin

import (
	"slices"
	"testing"

	"ringhall/api"
)

// full are all lines.
func full() []int {
	var l []int
	for line := range 32 {
		l = append(l, line)
	}
	return l
}

func TestMaxDeep(t *testing.T) {
	if MaxDeep != 16 {
		t.Errorf("MaxDeep is %d", MaxDeep)
	}
}

func TestNewOff(t *testing.T) {
	p := maskOf(t)
	p.is(true, 0)
	p.comes(true, full()...)
	p.is(true, 0)
	p.rest()
}

// Interrupts of an Off that NewOff did not make are enabled.
func TestOffWithoutNew(t *testing.T) {
	p := maskOf(t)
	p.o = new(Off)
	p.is(true, 0)
	p.comes(true, 4)
	p.saves(1)
	p.comes(false, 4)
	p.is(false, 1)
	p.backs(4)
	p.rest()
}

// To each depth and back: interrupts are enabled at the bottom only.
func TestSaveAndBack(t *testing.T) {
	for deepest := 1; deepest <= 16; deepest++ {
		p := maskOf(t)
		for deep := 1; deep <= deepest; deep++ {
			p.saves(1)
			p.is(false, deep)
		}
		p.comes(false, 31, 0)
		for deep := deepest - 1; deep > 0; deep-- {
			p.backs()
			p.is(false, deep)
		}
		p.backs(31, 0)
		p.is(true, 0)
		p.comes(true, 31, 0)
		p.rest()
	}
}

// A seventeenth entry is refused, and nothing changes; there is room again behind a Back.
func TestSaveOfAFullStack(t *testing.T) {
	p := maskOf(t)
	p.saves(16)
	p.comes(false, 8)
	for range 3 {
		if err := p.save(); err != api.ErrFull {
			t.Fatalf("Save is %d", err)
		}
		p.is(false, 16)
	}
	p.backs()
	p.is(false, 15)
	p.saves(1)
	if err := p.save(); err != api.ErrFull {
		t.Fatalf("Save is %d", err)
	}
	for range 15 {
		p.backs()
	}
	p.is(false, 1)
	p.backs(8)
	p.rest()
}

// A Back too many is refused, and nothing changes.
func TestBackOfAnEmptyStack(t *testing.T) {
	p := maskOf(t)
	for range 2 {
		for range 3 {
			if l, err := p.back(); len(l) != 0 || err != api.ErrState {
				t.Fatalf("Back is %d, %d", l, err)
			}
			p.is(true, 0)
			p.comes(true, 3)
		}
		p.saves(1)
		p.is(false, 1)
		p.comes(false, 3)
		p.backs(3)
	}
}

// Each line, at each depth: it is delivered once, when interrupts are enabled.
func TestComeOfEveryLine(t *testing.T) {
	for line := range 32 {
		for deep := 1; deep <= 16; deep++ {
			p := maskOf(t)
			p.comes(true, line)
			p.saves(deep)
			p.comes(false, line)
			p.is(false, deep)
			for range deep - 1 {
				p.backs()
			}
			p.backs(line)
			p.rest()
		}
	}
}

// What was delivered at once is not pending.
func TestComeAtOnceLeavesNothing(t *testing.T) {
	p := maskOf(t)
	p.comes(true, 1, 2, 1)
	p.saves(2)
	p.backs()
	p.backs()
	p.is(true, 0)
}

// A line that is pending stays at the place of its first arrival.
func TestComeAgain(t *testing.T) {
	p := maskOf(t)
	p.saves(1)
	p.comes(false, 5, 3, 5, 0, 3, 3, 31, 0, 5)
	p.backs(5, 3, 0, 31)
	p.saves(1)
	p.comes(false, 3, 5, 3)
	p.backs(3, 5)
	p.rest()
}

// Lines that come at several depths are delivered together, in the order in which they came.
func TestComeAtSeveralDepths(t *testing.T) {
	p := maskOf(t)
	p.saves(1)
	p.comes(false, 9)
	p.saves(1)
	p.comes(false, 2, 9)
	p.saves(1)
	p.comes(false, 30)
	p.backs()
	p.comes(false, 1, 2)
	p.backs()
	p.saves(1)
	p.comes(false, 0, 30)
	p.backs()
	p.backs(9, 2, 30, 1, 0)
	p.comes(true, 9, 2)
	p.rest()
}

// All lines are pending at one time, from each of them on, up and down.
func TestComeOfAllLines(t *testing.T) {
	for first := range 32 {
		up := append(full()[first:], full()[:first]...)
		down := slices.Clone(up)
		slices.Reverse(down)
		for _, order := range [][]int{up, down} {
			p := maskOf(t)
			p.saves(1)
			p.comes(false, order...)
			p.comes(false, full()...)
			p.backs(order...)
			p.rest()
		}
	}
}

// Lines that do not exist are refused in either state, and are not pending.
func TestComeOfBadLines(t *testing.T) {
	for _, deep := range []int{0, 1, 2, 16} {
		for _, there := range [][]int{nil, {7}, full()} {
			p := maskOf(t)
			p.saves(deep)
			p.comes(deep == 0, there...)
			for _, line := range badLines {
				if is, err := p.come(line); is || err != api.ErrArg {
					t.Errorf("Come(%d) is %t, %d", line, is, err)
				}
				p.is(deep == 0, deep)
			}
			for range deep - 1 {
				p.backs()
			}
			if deep > 0 {
				p.backs(there...)
			}
			p.rest()
		}
	}
}

// Only what came since the last time is delivered, for as many rounds as one likes.
func TestManyRounds(t *testing.T) {
	p := maskOf(t)
	for round := range 1 << 12 {
		deep := 1 + round%16
		p.saves(deep)
		p.comes(false, round%32, (round+1)%32, round%32)
		for range deep - 1 {
			p.backs()
		}
		p.backs(round%32, (round+1)%32)
	}
	p.rest()
}

// What is done to a list that was told, and to the memory behind it, changes
// nothing that comes later, and no call changes the list.
func TestDeliveredLinesAreNew(t *testing.T) {
	for many := range 33 {
		p := maskOf(t)
		p.saves(1)
		p.comes(false, full()[:many]...)
		spoilt, _ := p.o.Back()
		p.m.back()
		spoilt = spoilt[:cap(spoilt)]
		for i := range spoilt {
			spoilt[i] = -5
		}
		p.saves(1)
		p.comes(false, full()...)
		p.backs(full()...)
		for i, line := range spoilt {
			if line != -5 {
				t.Fatalf("a list has %d at %d by a later call", line, i)
			}
		}
	}
}

func TestTwoOffsAreApart(t *testing.T) {
	p, q := maskOf(t), maskOf(t)
	p.saves(2)
	q.is(true, 0)
	p.comes(false, 6)
	q.comes(true, 6)
	q.saves(1)
	q.comes(false, 8)
	p.backs()
	p.is(false, 1)
	p.backs(6)
	q.is(false, 1)
	q.backs(8)
}
