package wait

import (
	"slices"
	"testing"

	"ringhall/api"
)

// spoilt has all the memory behind a list changed.
func spoilt(l []int) []int {
	l = l[:cap(l)]
	for i := range l {
		l[i] = -5
	}
	return l
}

// untouched checks that no call has written into a list that was spoilt.
func untouched(t *testing.T, l []int) {
	t.Helper()
	for i, n := range l {
		if n != -5 {
			t.Fatalf("a list has %d at %d by a later call", n, i)
		}
	}
}

// What is done to a list that was told, and to the memory behind it, changes
// no queue and no other list, and no call changes the list.
func TestListsAreNew(t *testing.T) {
	for long := range 17 {
		p := begin(t)
		p.fill(long, everybody)
		two := p.q.List()
		kept := slices.Clone(two)
		one := spoilt(p.q.List())
		p.same()
		if !slices.Equal(two, kept) {
			t.Fatalf("another list is %d, not %d", two, kept)
		}
		p.out(2)
		p.wakeAll(3)
		for n := 1; n <= 16; n++ {
			p.add(n, false)
		}
		if !slices.Equal(two, kept) {
			t.Fatalf("an earlier list is %d, not %d", two, kept)
		}
		untouched(t, one)
	}
}

// The same for those who were woken.
func TestWokenAreNew(t *testing.T) {
	for long := range 17 {
		for n := range long + 1 {
			p := begin(t)
			p.fill(long, everybody)
			got, _ := p.q.Wake(n)
			want, _ := p.m.wake(n)
			if !slices.Equal(got, want) {
				t.Fatalf("Wake(%d) is %d, not %d", n, got, want)
			}
			list := p.q.List()
			got = spoilt(got)
			p.same()
			if !slices.Equal(list, p.m.row) {
				t.Fatalf("a list is %d, not %d", list, p.m.row)
			}
			for n := 1; n <= 16; n++ {
				p.add(n, true)
			}
			p.wakeAll(5)
			p.rest()
			untouched(t, got)
		}
	}
}

// Who waits in one queue, or looks at it, doesn't in another one.
func TestTwoAreApart(t *testing.T) {
	p, q := begin(t), begin(t)
	p.fill(4, everybody)
	p.is(p.look(9), api.OK)
	q.empty()
	q.is(q.look(9), api.OK)
	p.wakes(2, 1, 2)
	p.sleeps(9, true, false)
	q.sleeps(9, true, true)
	q.is(q.add(4, false), api.OK)
	p.row(3, 4)
	q.row(9, 4)
	q.wakes(0, 4)
	p.is(p.out(4), api.OK)
	p.row(3)
	q.row(9)
}
