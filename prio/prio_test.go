package prio

import (
	"slices"
	"testing"

	"ringhall/api"
)

func TestNew(t *testing.T) {
	begin(t).empty()
}

// A Prio that New did not make is empty, and can be filled.
func TestPrioWithoutNew(t *testing.T) {
	p := begin(t)
	p.p = new(Prio)
	p.empty()
	p.is(p.put(2, 6), api.OK)
	p.leads(2, 6)
}

func TestExampleOfTheDocument(t *testing.T) {
	for _, order := range [][]int{{3, 5}, {5, 3}} {
		p := begin(t)
		for _, value := range order {
			p.is(p.put(10+value, value), api.OK)
		}
		p.leads(15, 5)
	}
}

// Every task at every priority, alone.
func TestPutOfEveryTask(t *testing.T) {
	for n := 1; n <= 16; n++ {
		for value := range 8 {
			p := begin(t)
			p.is(p.put(n, value), api.OK)
			p.queue(value, n)
			p.leads(n, value)
			if bits := p.p.Bits(); bits != 1<<value {
				t.Errorf("Bits is %b with the task %d of priority %d", bits, n, value)
			}
			p.is(p.turn(value), api.OK)
			p.queue(value, n)
			p.leaves(n, value)
			p.empty()
		}
	}
}

// Each task goes behind those that are there, whatever the numbers are.
func TestPutAppends(t *testing.T) {
	for value := range 8 {
		p := begin(t)
		order := []int{9, 16, 2, 1, 15, 8, 3, 12, 5, 14, 4, 10, 6, 13, 7, 11}
		for i, n := range order {
			p.is(p.put(n, value), api.OK)
			p.queue(value, order[:i+1]...)
			p.leads(9, value)
		}
	}
}

// All tasks spread over the queues: each has an order of its own.
func TestPutIntoAllQueues(t *testing.T) {
	p := begin(t)
	for n := 16; n >= 1; n-- {
		p.is(p.put(n, n%8), api.OK)
	}
	p.queue(0, 16, 8)
	for value := 1; value < 8; value++ {
		p.queue(value, value+8, value)
	}
	p.leads(15, 7)
	if bits := p.p.Bits(); bits != 255 {
		t.Errorf("Bits is %d with all queues in use", bits)
	}
}

func TestPutOfBadArguments(t *testing.T) {
	for _, there := range []int{0, 1, 16} {
		p := begin(t)
		p.fill(there, 4)
		for _, n := range badTasks {
			for value := range 8 {
				p.is(p.put(n, value), api.ErrArg)
			}
			for _, value := range badValues {
				p.is(p.put(n, value), api.ErrArg)
			}
		}
		// A bad priority is told first, whether the task is there or not.
		for n := 1; n <= 16; n++ {
			for _, value := range badValues {
				p.is(p.put(n, value), api.ErrArg)
			}
		}
	}
}

// A task that is in any queue can't be put into any other one, or behind it again.
func TestPutOfTasksThatAreThere(t *testing.T) {
	for value := range 8 {
		p := begin(t)
		p.fill(3, value)
		for n := 1; n <= 3; n++ {
			for other := range 8 {
				p.is(p.put(n, other), api.ErrThere)
			}
		}
		p.queue(value, 1, 2, 3)
		// Once it is out it may come again, at another priority, too.
		other := (value + 5) % 8
		p.leaves(2, value)
		p.is(p.put(2, other), api.OK)
		p.is(p.put(2, value), api.ErrThere)
		p.queue(value, 1, 3)
		p.leaves(2, other)
		p.is(p.put(2, value), api.OK)
		p.queue(value, 1, 3, 2)
	}
}

// From every place of a queue of every length; the others keep their order.
func TestOut(t *testing.T) {
	for value := range 8 {
		for long := 1; long <= 16; long++ {
			for n := 1; n <= long; n++ {
				p := begin(t)
				p.fill(long, value)
				p.leaves(n, value)
				var rest []int
				for other := 1; other <= long; other++ {
					if other != n {
						rest = append(rest, other)
					}
				}
				p.queue(value, rest...)
				p.none(n)
				p.is(p.put(n, value), api.OK)
				p.queue(value, append(rest, n)...)
			}
		}
	}
}

// The other queues stay as they are.
func TestOutOfOneOfManyQueues(t *testing.T) {
	for n := 1; n <= 16; n++ {
		p := begin(t)
		for other := 1; other <= 16; other++ {
			p.is(p.put(other, (other*5)%8), api.OK)
		}
		p.leaves(n, (n*5)%8)
		p.none(n)
	}
}

func TestOutOfNobody(t *testing.T) {
	p := begin(t)
	p.fill(5, 2)
	for _, n := range badTasks {
		p.none(n)
	}
	for n := 6; n <= 16; n++ {
		p.none(n)
	}
	p.queue(2, 1, 2, 3, 4, 5)
	p = begin(t)
	p.fill(16, 7)
	for _, n := range badTasks {
		p.none(n)
	}
}

// Which queues have somebody decides, not who came first, nor how many they are.
func TestFirst(t *testing.T) {
	p := begin(t)
	for _, c := range []struct{ t, value, first, at int }{
		{16, 2, 16, 2}, {1, 2, 16, 2}, {5, 0, 16, 2}, {9, 3, 9, 3}, {4, 1, 9, 3},
		{2, 7, 2, 7}, {3, 6, 2, 7}, {10, 7, 2, 7},
	} {
		p.is(p.put(c.t, c.value), api.OK)
		p.leads(c.first, c.at)
	}
	for _, c := range []struct{ t, value int }{
		{2, 7}, {10, 7}, {3, 6}, {9, 3}, {16, 2}, {1, 2}, {4, 1}, {5, 0},
	} {
		p.leads(c.t, c.value)
		p.leads(c.t, c.value) // it is still there
		p.leaves(c.t, c.value)
	}
	p.empty()
}

// Every set of queues in use, with one task in each, or with two.
func TestFirstAndBitsOfEverySet(t *testing.T) {
	for set := range 256 {
		for _, each := range []int{1, 2} {
			p := begin(t)
			most := -1
			for value := range 8 {
				if set>>value&1 == 0 {
					continue
				}
				most = value
				for i := range each {
					p.is(p.put(8*i+8-value, value), api.OK)
				}
			}
			if bits := p.p.Bits(); bits != set {
				t.Errorf("Bits is %b, not %b", bits, set)
			}
			if set != 0 {
				p.leads(8-most, most)
			}
		}
	}
}

func TestTurn(t *testing.T) {
	p := begin(t)
	p.fill(3, 5)
	for _, want := range [][]int{{2, 3, 1}, {3, 1, 2}, {1, 2, 3}, {2, 3, 1}} {
		p.is(p.turn(5), api.OK)
		p.queue(5, want...)
		p.leads(want[0], 5)
	}
	p.is(p.put(4, 5), api.OK)
	p.queue(5, 2, 3, 1, 4)
	p.leaves(3, 5)
	p.is(p.turn(5), api.OK)
	p.queue(5, 1, 4, 2)
}

// A queue of any length is as it was when each of it had its turn, and not sooner.
func TestTurnGoesRound(t *testing.T) {
	for value := range 8 {
		for long := 1; long <= 16; long++ {
			p := begin(t)
			p.fill(long, value)
			before, _ := p.p.List(value)
			for i := range 2 * long {
				p.leads(1+i%long, value)
				p.is(p.turn(value), api.OK)
				after, _ := p.p.List(value)
				if back := slices.Equal(before, after); back != ((i+1)%long == 0) {
					t.Errorf("after %d turns, the queue %d is %d", i+1, before, after)
				}
			}
		}
	}
}

// The turn is that of the queue that is named, not of the first one that has somebody.
func TestTurnOfOneOfManyQueues(t *testing.T) {
	for value := range 8 {
		p := begin(t)
		for n := 1; n <= 16; n++ {
			p.is(p.put(n, n%8), api.OK)
		}
		p.is(p.turn(value), api.OK)
		for other := range 8 {
			low, high := other, other+8
			if other == 0 {
				low, high = 8, 16
			}
			if other == value {
				low, high = high, low
			}
			p.queue(other, low, high)
		}
	}
}

func TestTurnOfBadQueues(t *testing.T) {
	for value := range 8 {
		p := begin(t)
		p.fill(4, value)
		for other := range 8 {
			if other != value {
				p.is(p.turn(other), api.ErrNone)
			}
		}
		for _, bad := range badValues {
			p.is(p.turn(bad), api.ErrArg)
		}
		p.queue(value, 1, 2, 3, 4)
	}
	for _, bad := range badValues {
		p := begin(t)
		p.is(p.turn(bad), api.ErrArg)
	}
}

func TestListOfBadQueues(t *testing.T) {
	for _, there := range []int{0, 16} {
		p := begin(t)
		p.fill(there, 0)
		for _, bad := range badValues {
			if l, err := p.p.List(bad); len(l) != 0 || err != api.ErrArg {
				t.Errorf("List(%d) is %d, %d", bad, l, err)
			}
		}
	}
}

// What is done to a list that was told, and to the memory behind it, changes
// no queue and no other list, and no call changes the list.
func TestListsAreNew(t *testing.T) {
	for long := range 17 {
		p := begin(t)
		p.fill(long, 3)
		one, _ := p.p.List(3)
		two, _ := p.p.List(3)
		kept := slices.Clone(two)
		one = one[:cap(one)]
		for i := range one {
			one[i] = -5
		}
		p.same()
		if !slices.Equal(two, kept) {
			t.Fatalf("another list is %d, not %d", two, kept)
		}
		p.turn(3)
		p.out(2)
		p.put(16, 3)
		p.put(2, 3)
		p.same()
		if !slices.Equal(two, kept) {
			t.Fatalf("an earlier list is %d, not %d", two, kept)
		}
		for i, n := range one {
			if n != -5 {
				t.Fatalf("a list has %d at %d by a later call", n, i)
			}
		}
	}
}

// What one Prio has, another one has not.
func TestTwoAreApart(t *testing.T) {
	p, q := begin(t), begin(t)
	p.fill(4, 6)
	q.empty()
	q.is(q.put(4, 6), api.OK)
	q.is(q.put(3, 1), api.OK)
	p.is(p.turn(6), api.OK)
	p.leaves(3, 6)
	q.leads(4, 6)
	q.leaves(4, 6)
	p.queue(6, 2, 4, 1)
	q.queue(1, 3)
}
