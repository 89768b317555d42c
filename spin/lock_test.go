package spin

import (
	"math"
	"slices"
	"testing"

	"ringhall/api"
)

// corners are tickets at which 16 bits, or 15, come to an end.
var corners = []uint16{0, 1, 2, 255, 256, 0x7ffe, 0x7fff, 0x8000, 0x8001, 0xfffc, 0xfffd, 0xfffe, 0xffff}

func TestNew(t *testing.T) {
	for _, first := range corners {
		p := lockFrom(t, first)
		p.row()
		for i := range 4 {
			p.frees(i, api.ErrState)
		}
		p.takes(2, first)
		p.row(2)
	}
}

// A Lock that New did not make is free, and its first ticket is 0.
func TestLockWithoutNew(t *testing.T) {
	p := lockFrom(t, 0)
	p.l = new(Lock)
	p.row()
	p.frees(0, api.ErrState)
	p.takes(3, 0)
	p.takes(0, 1)
	p.row(3, 0)
	p.rest()
}

// From each ticket on, for each processor.
func TestTakeOfEveryTicket(t *testing.T) {
	for first := range 1 << 16 {
		l := New(uint16(first))
		for n := range 4 {
			got, err := l.Take((first + n) % 4)
			if want := (first + n) % 65536; int(got) != want || err != api.OK {
				t.Fatalf("ticket %d from %d on is %d, %d, not %d", n, first, got, err, want)
			}
		}
	}
}

// A ticket that was given back does not come again until all others have.
func TestTicketsWrapAround(t *testing.T) {
	l := New(7)
	for n := range 3 << 16 {
		i := n % 4
		ticket, err := l.Take(i)
		if want := (7 + n) % 65536; int(ticket) != want || err != api.OK {
			t.Fatalf("ticket %d is %d, %d, not %d", n, ticket, err, want)
		}
		if holds, err := l.Mine(i); !holds || err != api.OK {
			t.Fatalf("ticket %d: Mine(%d) is %t, %d", n, i, holds, err)
		}
		if err := l.Free(i); err != api.OK {
			t.Fatalf("ticket %d: Free(%d) is %d", n, i, err)
		}
	}
}

// The lock goes round all processors while the tickets wrap around: who took a
// ticket of a small number behind one of a great number stands behind it.
func TestOrderWhereTicketsWrapAround(t *testing.T) {
	p := lockFrom(t, 0xfffd)
	p.takes(2, 0xfffd)
	p.takes(0, 0xfffe)
	p.takes(3, 0xffff)
	p.takes(1, 0)
	p.row(2, 0, 3, 1)
	p.frees(2, api.OK)
	p.takes(2, 1)
	p.row(0, 3, 1, 2)
	p.frees(0, api.OK)
	p.frees(3, api.OK)
	p.row(1, 2)
	p.takes(3, 2)
	p.takes(0, 3)
	p.row(1, 2, 3, 0)
	p.rest()
}

func TestTakeOfBadProcessors(t *testing.T) {
	for there := range 5 {
		p := lockFrom(t, 9)
		for i := range there {
			p.takes(i, uint16(9+i))
		}
		for _, i := range badCpus {
			p.refuses(i, api.ErrArg)
		}
		if there < 4 {
			p.takes(3, uint16(9+there)) // no ticket is lost
		}
		p.rest()
	}
}

// Whoever has a ticket gets no other one, whether it holds the lock or waits,
// keeps its place, and no ticket is lost.
func TestTakeOfProcessorsThatHaveATicket(t *testing.T) {
	p := lockFrom(t, 0xfffe)
	p.takes(1, 0xfffe)
	p.refuses(1, api.ErrThere)
	p.takes(3, 0xffff)
	p.refuses(1, api.ErrThere)
	p.refuses(3, api.ErrThere)
	p.takes(0, 0)
	p.refuses(0, api.ErrThere)
	p.takes(2, 1)
	for i := range 4 {
		p.refuses(i, api.ErrThere)
	}
	p.row(1, 3, 0, 2)
	p.frees(1, api.OK)
	p.refuses(3, api.ErrThere)
	p.takes(1, 2)
	p.row(3, 0, 2, 1)
}

// orders of all subsets of the processors.
func orders() [][]int {
	all := [][]int{nil}
	for at := 0; at < len(all); at++ {
		for i := range 4 {
			if !slices.Contains(all[at], i) {
				all = append(all, append(slices.Clone(all[at]), i))
			}
		}
	}
	return all
}

// In whichever order the processors come, each has the lock in its turn, and
// nobody else can free it.
func TestEveryOrder(t *testing.T) {
	all := orders()
	if len(all) != 1+4+12+24+24 {
		t.Fatalf("there are %d orders", len(all))
	}
	for _, order := range all {
		for _, first := range corners {
			p := lockFrom(t, first)
			for n, i := range order {
				p.takes(i, first+uint16(n))
				p.row(order[:n+1]...)
			}
			for n, i := range order {
				for other := range 4 {
					if other != i {
						p.frees(other, api.ErrState)
					}
				}
				p.row(order[n:]...)
				p.frees(i, api.OK)
				p.row(order[n+1:]...)
			}
			p.rest()
		}
	}
}

// Who frees the lock has no ticket any more, and goes behind all others when it comes again.
func TestFreeGivesTheTicketBack(t *testing.T) {
	p := lockFrom(t, 40)
	p.takes(0, 40)
	p.takes(1, 41)
	p.frees(0, api.OK)
	p.frees(0, api.ErrState)
	p.row(1)
	p.takes(0, 42)
	p.row(1, 0)
	p.frees(0, api.ErrState)
	p.frees(1, api.OK)
	p.row(0)
	p.frees(0, api.OK)
	p.row()
	p.takes(0, 43)
	p.row(0)
}

func TestMineAndFreeOfBadProcessors(t *testing.T) {
	for _, order := range orders() {
		p := lockFrom(t, 0)
		for _, i := range order {
			p.take(i)
		}
		for _, i := range badCpus {
			if holds, err := p.l.Mine(i); holds || err != api.ErrArg {
				t.Errorf("Mine(%d) is %t, %d", i, holds, err)
			}
			p.frees(i, api.ErrArg)
		}
		p.row(order...)
		p.rest()
	}
}

// What is done to a row that was told, and to the memory behind it, changes no
// lock and no other row, and no call changes the row.
func TestRowsAreNew(t *testing.T) {
	for _, order := range orders() {
		p := lockFrom(t, 0)
		for _, i := range order {
			p.take(i)
		}
		kept, spoilt := p.l.Row(), p.l.Row()
		spoilt = spoilt[:cap(spoilt)]
		for n := range spoilt {
			spoilt[n] = -5
		}
		p.row(order...)
		p.rest()
		for i := range 4 {
			p.take(i)
		}
		if !slices.Equal(kept, order) {
			t.Fatalf("an earlier row is %d, not %d", kept, order)
		}
		for n, i := range spoilt {
			if i != -5 {
				t.Fatalf("a row has %d at %d by a later call", i, n)
			}
		}
	}
}

func TestTwoLocksAreApart(t *testing.T) {
	p, q := lockFrom(t, 5), lockFrom(t, 50)
	p.takes(1, 5)
	q.row()
	q.frees(1, api.ErrState)
	q.takes(2, 50)
	q.takes(1, 51)
	p.row(1)
	q.row(2, 1)
	p.frees(1, api.OK)
	q.row(2, 1)
	q.frees(2, api.OK)
	p.takes(2, 6)
	q.row(1)
}

func TestApart(t *testing.T) {
	for _, c := range []struct {
		a, b uint16
		want int
	}{
		{65535, 1, 2}, // the document's example
		{1, 65535, -2},
		{0, 0, 0},
		{65535, 65535, 0},
		{0, 1, 1},
		{1, 0, -1},
		{65535, 0, 1},
		{0, 65535, -1},
		{0, 32767, 32767},
		{0, 32768, -32768},
		{0, 32769, -32767},
		{32768, 0, -32768},
		{32769, 0, 32767},
		{32767, 0, -32767},
		{32767, 65535, -32768},
		{32767, 65534, 32767},
		{65535, 32767, -32768},
		{65535, 32766, 32767},
		{1000, 900, -100},
	} {
		if got := Apart(c.a, c.b); got != c.want {
			t.Errorf("Apart(%d, %d) is %d, not %d", c.a, c.b, got, c.want)
		}
	}
}

// From each corner to each ticket: a number in the bounds, by which one comes
// from the one to the other.
func TestApartOfEveryTicket(t *testing.T) {
	for _, a := range corners {
		for b := range 1 << 16 {
			got := Apart(a, uint16(b))
			if got < math.MinInt16 || got > math.MaxInt16 || (int(a)+got+65536)%65536 != b {
				t.Fatalf("Apart(%d, %d) is %d", a, b, got)
			}
		}
	}
}

// The distance of two tickets tells in which order they were taken.
func TestApartOfTicketsOfALock(t *testing.T) {
	for _, first := range corners {
		p := lockFrom(t, first)
		var tickets []uint16
		for _, i := range []int{3, 1, 0, 2} {
			ticket, _ := p.take(i)
			tickets = append(tickets, ticket)
		}
		for n, a := range tickets {
			for m, b := range tickets {
				if got := Apart(a, b); got != m-n {
					t.Errorf("Apart(%d, %d) is %d, not %d", a, b, got, m-n)
				}
			}
		}
	}
}
