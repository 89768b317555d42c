package wrap

import (
	"bytes"
	"math"
	"slices"
	"testing"

	"ringhall/api"
)

// Counters close to the places where the distance changes its sign.
var corners = []uint32{0, 1, 2, 1<<30 - 1, 1 << 30, 1<<31 - 1, 1 << 31, 1<<31 + 1, 3 << 30, 1<<32 - 2, 1<<32 - 1}

func TestFar(t *testing.T) {
	for _, c := range []struct {
		a, b uint32
		want int
	}{
		{4294967294, 1, 3},
		{1, 4294967294, -3},
		{0, 0, 0},
		{7, 7, 0},
		{math.MaxUint32, math.MaxUint32, 0},
		{5, 9, 4},
		{9, 5, -4},
		{math.MaxUint32, 0, 1},
		{0, math.MaxUint32, -1},
		{0, 1<<31 - 1, 1<<31 - 1},
		{0, 1 << 31, -1 << 31},
		{1 << 31, 0, -1 << 31},
		{3, 1<<31 + 3, -1 << 31},
		{1<<31 + 3, 3, -1 << 31},
		{0, 1<<31 + 1, -(1<<31 - 1)},
		{1<<31 + 1, 0, 1<<31 - 1},
	} {
		if got := Far(c.a, c.b); got != c.want {
			t.Errorf("Far(%d, %d) is %d, not %d", c.a, c.b, got, c.want)
		}
	}
}

func TestFarIsTheDistanceModulo(t *testing.T) {
	for _, a := range corners {
		for _, b := range corners {
			d := Far(a, b)
			if d < -1<<31 || d > 1<<31-1 || (int64(d)-int64(b)+int64(a))%(1<<32) != 0 {
				t.Errorf("Far(%d, %d) is %d", a, b, d)
			}
		}
	}
}

func TestLess(t *testing.T) {
	for _, a := range corners {
		for _, b := range corners {
			if Less(a, b) != (Far(a, b) > 0) {
				t.Errorf("Less(%d, %d) is %v", a, b, Less(a, b))
			}
		}
	}
	if !Less(1, 2) || Less(2, 1) || Less(2, 2) || !Less(1<<32-1, 0) || Less(0, 1<<31) || Less(1<<31, 0) || !Less(0, 1<<31-1) {
		t.Error("an order of two counters is wrong")
	}
}

func TestLast(t *testing.T) {
	for _, c := range []struct {
		l    []uint32
		want uint32
		err  api.Errno
	}{
		{nil, 0, api.ErrNone},
		{[]uint32{}, 0, api.ErrNone},
		{[]uint32{9}, 9, api.OK},
		{[]uint32{9, 9}, 9, api.OK},
		{[]uint32{1, 3, 2}, 3, api.OK},
		{[]uint32{0xffffffff, 2, 1}, 2, api.OK},
		{[]uint32{2, 0xffffffff}, 2, api.OK},
		// Exactly half way round, neither is ahead: the first one is told.
		{[]uint32{0, 1 << 31}, 0, api.OK},
		{[]uint32{1 << 31, 0}, 1 << 31, api.OK},
		{[]uint32{0, 1 << 31, 0}, 0, api.OK},
		// Something ahead of the first one decides between the two.
		{[]uint32{0, 1 << 31, 1}, 1 << 31, api.OK},
		{[]uint32{0, 1, 1 << 31}, 1 << 31, api.OK},
		{[]uint32{1, 0, 1 << 31}, 1 << 31, api.OK},
		// All the way round, each has another one ahead.
		{[]uint32{0, 1 << 30, 1 << 31, 3 << 30}, 0, api.ErrForm},
		{[]uint32{0, 1 << 30, 1<<31 + 1}, 0, api.ErrForm},
		{[]uint32{5, 5 + 1<<30, 5 + 1<<31 + 1}, 0, api.ErrForm},
	} {
		if got, err := Last(c.l); got != c.want || err != c.err {
			t.Errorf("Last(%d) is %d, %d, not %d, %d", c.l, got, err, c.want, c.err)
		}
	}
}

// lastByWord follows the words of the document.
func lastByWord(l []uint32) (uint32, api.Errno) {
	if len(l) == 0 {
		return 0, api.ErrNone
	}
	for _, x := range l {
		if !slices.ContainsFunc(l, func(y uint32) bool { return Less(x, y) }) {
			return x, api.OK
		}
	}
	return 0, api.ErrForm
}

func TestLastOfAllShortLists(t *testing.T) {
	var extend func(l []uint32, more int)
	extend = func(l []uint32, more int) {
		want, fault := lastByWord(l)
		if got, err := Last(l); got != want || err != fault {
			t.Fatalf("Last(%d) is %d, %d, not %d, %d", l, got, err, want, fault)
		}
		if more == 0 {
			return
		}
		for _, c := range corners {
			extend(append(slices.Clone(l), c), more-1)
		}
	}
	extend(nil, 5)
}

// Comparing all pairs of so many would not come to an end.
func TestLastOfManyCounters(t *testing.T) {
	l := make([]uint32, 1<<20)
	for i := range l {
		l[i] = uint32(i)
	}
	want := l[len(l)-1]
	if got, err := Last(l); got != want || err != api.OK {
		t.Errorf("Last is %d, %d, not %d", got, err, want)
	}
	l = append(l, want+1<<30, want+1<<31+1)
	if got, err := Last(l); got != 0 || err != api.ErrForm {
		t.Errorf("Last is %d, %d", got, err)
	}
}

// newRing is New for sizes that are right.
func newRing(t *testing.T, size int, first uint32) *Ring {
	t.Helper()
	r, err := New(size, first)
	if err != api.OK || r == nil {
		t.Fatalf("New(%d, %d) is %v, %d", size, first, r, err)
	}
	return r
}

func TestNew(t *testing.T) {
	for _, size := range []int{math.MinInt, -1, 0, MaxRing + 1, math.MaxInt} {
		if r, err := New(size, 0); r != nil || err != api.ErrArg {
			t.Errorf("New(%d, 0) is %v, %d", size, r, err)
		}
	}
	if MaxRing != 64 || MaxRecord != 32 {
		t.Error("a limit is wrong")
	}
	for _, size := range []int{1, 2, 63, MaxRing} {
		for _, first := range corners {
			r := newRing(t, size, first)
			if a, b := r.Span(); a != first || b != first {
				t.Errorf("the span of a new ring is %d, %d", a, b)
			}
			if n, err := r.Put([]byte("x")); n != first || err != api.OK {
				t.Errorf("the first number is %d, %d, not %d", n, err, first)
			}
		}
	}
}

// record is the content that the tests give to the record with a number.
func record(n uint32) []byte {
	return bytes.Repeat([]byte{byte(n)}, int(n%(MaxRecord+1)))
}

// same compares a ring with what it must hold: the records from a to before b.
func same(t *testing.T, r *Ring, a, b uint32) {
	t.Helper()
	if x, y := r.Span(); x != a || y != b {
		t.Fatalf("the span is %d, %d, not %d, %d", x, y, a, b)
	}
	for n := a - 3; n != b+3; n++ {
		there := Far(a, n) >= 0 && Less(n, b)
		x, err := r.Get(n)
		if there && (!bytes.Equal(x, record(n)) || err != api.OK) || !there && (x != nil || err != api.ErrNone) {
			t.Fatalf("Get(%d) is %v, %d in a ring from %d to %d", n, x, err, a, b)
		}
		l, err := r.From(n)
		if !there && n != b {
			if l != nil || err != api.ErrNone {
				t.Fatalf("From(%d) is %v, %d in a ring from %d to %d", n, l, err, a, b)
			}
			continue
		}
		if len(l) != Far(n, b) || err != api.OK {
			t.Fatalf("From(%d) is %v, %d in a ring from %d to %d", n, l, err, a, b)
		}
		for i, x := range l {
			if !bytes.Equal(x, record(n+uint32(i))) {
				t.Fatalf("From(%d) has %v at %d", n, x, i)
			}
		}
	}
	for _, far := range []uint32{1 << 30, 1 << 31, 3 << 30} {
		x, e := r.Get(a + far)
		l, f := r.From(a + far)
		if x != nil || l != nil || e != api.ErrNone || f != api.ErrNone {
			t.Fatalf("there is something at %d in a ring from %d to %d", a+far, a, b)
		}
	}
}

func TestRingKeepsTheMostRecent(t *testing.T) {
	for _, size := range []int{1, 2, 3, 5, 63, MaxRing} {
		for _, first := range []uint32{0, 1, 1000, 1<<31 - 2, 1<<32 - 70, 1<<32 - 2, 1<<32 - 1} {
			r := newRing(t, size, first)
			same(t, r, first, first)
			for i := range 2*size + 5 {
				n := first + uint32(i)
				if got, err := r.Put(record(n)); got != n || err != api.OK {
					t.Fatalf("Put is %d, %d, not %d", got, err, n)
				}
				same(t, r, n+1-uint32(min(i+1, size)), n+1)
			}
		}
	}
}

func TestPutTooMuch(t *testing.T) {
	r := newRing(t, 2, 5)
	for i := range 4 {
		for _, long := range []int{MaxRecord + 1, 1000} {
			if n, err := r.Put(make([]byte, long)); n != 0 || err != api.ErrLarge {
				t.Errorf("Put of %d bytes is %d, %d", long, n, err)
			}
		}
		same(t, r, uint32(5+max(0, i-2)), uint32(5+i))
		r.Put(record(uint32(5 + i)))
	}
	if n, err := r.Put(make([]byte, MaxRecord)); n != 9 || err != api.OK {
		t.Errorf("Put of the longest record is %d, %d", n, err)
	}
}

func TestNilAndEmptyRecords(t *testing.T) {
	r := newRing(t, 3, 0)
	r.Put(nil)
	r.Put([]byte{})
	for n := range uint32(2) {
		if x, err := r.Get(n); len(x) != 0 || err != api.OK {
			t.Errorf("Get(%d) is %v, %d", n, x, err)
		}
	}
	if l, err := r.From(0); len(l) != 2 || len(l[0]) != 0 || len(l[1]) != 0 || err != api.OK {
		t.Errorf("From is %v, %d", l, err)
	}
}

func TestNothingIsThereInAnEmptyRing(t *testing.T) {
	r := newRing(t, 1, 7)
	for _, n := range []uint32{6, 7, 8} {
		if x, err := r.Get(n); x != nil || err != api.ErrNone {
			t.Errorf("Get(%d) is %v, %d", n, x, err)
		}
		l, err := r.From(n)
		want := api.ErrNone
		if n == 7 {
			want = api.OK
		}
		if len(l) != 0 || err != want {
			t.Errorf("From(%d) is %v, %d", n, l, err)
		}
	}
}

// spoil writes over a slice, and over its spare capacity.
func spoil(b []byte) {
	for i := range b[:cap(b)] {
		b[:cap(b)][i] = '!'
	}
}

func TestArgumentsAreNotKept(t *testing.T) {
	b := append(make([]byte, 0, 64), "record"...)
	r := newRing(t, 2, 0)
	r.Put(b)
	if string(b[:10]) != "record\x00\x00\x00\x00" {
		t.Error("Put changes what it is given")
	}
	spoil(b)
	if x, _ := r.Get(0); string(x) != "record" {
		t.Errorf("the ring has %q", x)
	}
	l := []uint32{3, 1, 1 << 31, 2}
	Last(l)
	if !slices.Equal(l, []uint32{3, 1, 1 << 31, 2}) {
		t.Error("Last changes what it is given")
	}
}

func TestResultsAreNewMemory(t *testing.T) {
	r := newRing(t, 3, 0)
	for _, s := range []string{"one", "two", "three"} {
		r.Put([]byte(s))
	}
	check := func() {
		t.Helper()
		l, _ := r.From(0)
		x, _ := r.Get(1)
		if len(l) != 3 || string(l[0]) != "one" || string(l[1]) != "two" || string(l[2]) != "three" || string(x) != "two" {
			t.Errorf("the ring has %q, %q", l, x)
		}
	}
	x, _ := r.Get(1)
	y, _ := r.Get(1)
	spoil(x)
	if string(y) != "two" {
		t.Error("two results share memory")
	}
	check()
	l, _ := r.From(0)
	m, _ := r.From(0)
	spoil(l[1])
	if string(l[0]) != "one" || string(l[2]) != "three" || string(m[1]) != "two" {
		t.Error("records share memory")
	}
	clear(l[:cap(l)])
	if string(m[0]) != "one" {
		t.Error("two results share memory")
	}
	check()
}

func TestRingsAreIndependent(t *testing.T) {
	r, s := newRing(t, 2, 10), newRing(t, 2, 10)
	for n := uint32(10); n < 15; n++ {
		r.Put(record(n))
		same(t, s, 10, 10)
	}
	same(t, r, 13, 15)
}

// A Ring that New did not make has no room; its methods still come back.
func TestRingOfNoSize(t *testing.T) {
	var r Ring
	for range 3 {
		a, b := r.Span()
		n, err := r.Put([]byte("x"))
		if a != b || n != b || err != api.OK {
			t.Errorf("the span is %d, %d, and Put is %d, %d", a, b, n, err)
		}
		if x, err := r.Get(n); x != nil || err != api.ErrNone {
			t.Errorf("Get is %v, %d", x, err)
		}
		if l, err := r.From(n + 1); len(l) != 0 || err != api.OK {
			t.Errorf("From is %v, %d", l, err)
		}
	}
}
