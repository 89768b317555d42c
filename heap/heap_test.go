package heap

import (
	"cmp"
	"maps"
	"math"
	"slices"
	"strings"
	"testing"

	"ringhall/api"
)

// model is what a heap must hold.
type model[K cmp.Ordered] map[int]K

// order lists the ids as the document orders them.
func (m model[K]) order() []int {
	ids := slices.Sorted(maps.Keys(m))
	slices.SortStableFunc(ids, func(a, b int) int { return cmp.Compare(m[a], m[b]) })
	return ids
}

// Numbers that are in no heap of the tests.
var strangers = []int{math.MinInt, -1000, 1000, math.MaxInt}

// same compares all that a heap tells of itself with what it must hold.
func same[K cmp.Ordered](t *testing.T, h *Heap[K], m model[K]) {
	t.Helper()
	if h.Len() != len(m) {
		t.Fatalf("Len is %d, not %d", h.Len(), len(m))
	}
	for id, want := range m {
		if key, err := h.Key(id); cmp.Compare(key, want) != 0 || err != api.OK {
			t.Fatalf("Key(%d) is %v, %d, not %v", id, key, err, want)
		}
	}
	var none K
	for _, id := range strangers {
		if key, err := h.Key(id); key != none || err != api.ErrNone {
			t.Fatalf("Key(%d) is %v, %d", id, key, err)
		}
	}
	id, key, err := h.Peek()
	if len(m) == 0 {
		if id != 0 || key != none || err != api.ErrNone {
			t.Fatalf("Peek into an empty heap is %d, %v, %d", id, key, err)
		}
		return
	}
	want := m.order()[0]
	if id != want || cmp.Compare(key, m[want]) != 0 || err != api.OK {
		t.Fatalf("Peek is %d, %v, %d, not %d, %v", id, key, err, want, m[want])
	}
}

// drain pops everything and compares the order.
func drain[K cmp.Ordered](t *testing.T, h *Heap[K], m model[K]) {
	t.Helper()
	left := maps.Clone(m)
	for _, want := range m.order() {
		same(t, h, left)
		if id, key, err := h.Pop(); id != want || cmp.Compare(key, m[want]) != 0 || err != api.OK {
			t.Fatalf("Pop is %d, %v, %d, not %d, %v", id, key, err, want, m[want])
		}
		delete(left, want)
	}
	empty(t, h)
}

// empty checks what every method says of a heap that holds nothing, except Push.
func empty[K cmp.Ordered](t *testing.T, h *Heap[K]) {
	t.Helper()
	same(t, h, model[K]{})
	var none K
	if id, key, err := h.Pop(); id != 0 || key != none || err != api.ErrNone {
		t.Fatalf("Pop from an empty heap is %d, %v, %d", id, key, err)
	}
	for _, id := range append([]int{0, 1, 2}, strangers...) {
		if key, err := h.Key(id); key != none || err != api.ErrNone {
			t.Fatalf("Key(%d) in an empty heap is %v, %d", id, key, err)
		}
		if key, err := h.Out(id); key != none || err != api.ErrNone {
			t.Fatalf("Out(%d) from an empty heap is %v, %d", id, key, err)
		}
		if err := h.Turn(id, none); err != api.ErrNone {
			t.Fatalf("Turn(%d) in an empty heap is %d", id, err)
		}
	}
	same(t, h, model[K]{})
}

// filled is a heap with a key for each of the ids from 0 on, and its model.
func filled[K cmp.Ordered](t *testing.T, keys ...K) (*Heap[K], model[K]) {
	t.Helper()
	h, m := New[K](), model[K]{}
	for id, key := range keys {
		if err := h.Push(id, key); err != api.OK {
			t.Fatalf("Push(%d, %v) is %d", id, key, err)
		}
		m[id] = key
	}
	return h, m
}

func TestNew(t *testing.T) {
	empty(t, New[int]())
	empty(t, New[string]())
	empty(t, New[float64]())
	empty(t, New[uint8]())
}

// A Heap that New did not make is empty, and can be filled.
func TestHeapWithoutNew(t *testing.T) {
	var h Heap[string]
	empty(t, &h)
	if err := h.Push(3, "x"); err != api.OK {
		t.Errorf("Push is %d", err)
	}
	drain(t, &h, model[string]{3: "x"})
}

func TestExampleOfTheDocument(t *testing.T) {
	for _, ids := range [][]int{{3, 4}, {4, 3}} {
		h := New[int]()
		for _, id := range ids {
			h.Push(id, 4)
		}
		if id, key, err := h.Pop(); id != 3 || key != 4 || err != api.OK {
			t.Errorf("Pop is %d, %d, %d", id, key, err)
		}
	}
}

func TestPopInOrder(t *testing.T) {
	h, m := filled(t, 5, -3, 5, 0, math.MaxInt, math.MinInt, 5, -3, 7, 0)
	drain(t, h, m)
	s, n := filled(t, "b", "", "ab", "a", "B", "b", "\xff", "", "é", "\x00")
	drain(t, s, n)
	u, o := filled[uint8](t, 200, 0, 255, 127, 128, 0)
	drain(t, u, o)
}

// A type of its own is ordered like the one that it is made of.
func TestKeysOfANamedType(t *testing.T) {
	type ticks int16
	h, m := filled[ticks](t, 3, -2, 3, 1)
	drain(t, h, m)
}

// The order of cmp.Compare has a place for what < can't order, too.
func TestFloatKeys(t *testing.T) {
	nan, zero := math.NaN(), 0.0
	h, m := filled(t, 1, nan, math.Inf(1), zero, -zero, math.Inf(-1), nan, math.Copysign(0, -1), -5, nan)
	drain(t, h, m)

	h, m = filled(t, 2, nan, 1, nan)
	if err := h.Turn(1, 3); err != api.OK {
		t.Errorf("Turn is %d", err)
	}
	if err := h.Turn(0, nan); err != api.OK {
		t.Errorf("Turn is %d", err)
	}
	if key, err := h.Out(3); key == key || err != api.OK {
		t.Errorf("Out is %v, %d", key, err)
	}
	drain(t, h, model[float64]{0: nan, 1: 3, 2: 1})
}

// Both zeros are equal keys, but each comes back as it was put in.
func TestZerosKeepTheirSign(t *testing.T) {
	h, _ := filled(t, 0, math.Copysign(0, -1))
	if id, key, _ := h.Pop(); id != 0 || math.Signbit(key) {
		t.Errorf("Pop is %d, %v", id, key)
	}
	if key, _ := h.Key(1); !math.Signbit(key) {
		t.Errorf("Key is %v", key)
	}
	h.Turn(1, 0)
	if key, _ := h.Out(1); math.Signbit(key) {
		t.Errorf("Out is %v", key)
	}
}

func TestAnyNumberIsAnID(t *testing.T) {
	h, m := New[int](), model[int]{}
	for _, id := range []int{0, math.MaxInt, -1, math.MinInt, 1, -2} {
		if err := h.Push(id, 0); err != api.OK {
			t.Errorf("Push(%d) is %d", id, err)
		}
		m[id] = 0
	}
	for _, want := range m.order() {
		if id, _, err := h.Pop(); id != want || err != api.OK {
			t.Errorf("Pop is %d, %d, not %d", id, err, want)
		}
	}
	if want := []int{math.MinInt, -2, -1, 0, 1, math.MaxInt}; !slices.Equal(m.order(), want) {
		t.Errorf("the model has the order %d", m.order())
	}
}

func TestPushAgain(t *testing.T) {
	h, m := filled(t, "c", "a", "b")
	for id := range 3 {
		for _, key := range []string{"", "a", "c", "z"} {
			if err := h.Push(id, key); err != api.ErrThere {
				t.Errorf("Push(%d, %q) is %d", id, key, err)
			}
			same(t, h, m)
		}
	}
	drain(t, h, m)
}

func TestPushWhatHasGone(t *testing.T) {
	h, m := filled(t, 1, 2, 3)
	h.Pop()
	h.Out(2)
	for _, id := range []int{0, 2} {
		if err := h.Push(id, 9); err != api.OK {
			t.Errorf("Push(%d) is %d", id, err)
		}
		m[id] = 9
	}
	drain(t, h, m)
}

func TestWhatIsNotThere(t *testing.T) {
	h, m := filled(t, 6, 4, 5)
	h.Pop()
	delete(m, 1)
	for _, id := range append([]int{-1, 1, 3}, strangers...) {
		key, e := h.Key(id)
		out, f := h.Out(id)
		g := h.Turn(id, 1)
		if key != 0 || out != 0 || e != api.ErrNone || f != api.ErrNone || g != api.ErrNone {
			t.Errorf("for %d there is %d, %d, %d, %d, %d", id, key, e, out, f, g)
		}
		same(t, h, m)
	}
	drain(t, h, m)
}

func TestPeekChangesNothing(t *testing.T) {
	h, m := filled(t, 2, 1, 3)
	for range 5 {
		h.Peek()
		same(t, h, m)
	}
	drain(t, h, m)
}

func TestHeapsAreIndependent(t *testing.T) {
	a, m := filled(t, 3, 1, 2)
	b, n := filled(t, 1, 2)
	a.Turn(0, 0)
	a.Out(1)
	same(t, b, n)
	b.Pop()
	drain(t, a, model[int]{0: 0, 2: m[2]})
	drain(t, b, model[int]{1: n[1]})
}

// each calls f with every list of so many keys below limit.
func each(long, limit int, f func([]int)) {
	keys := make([]int, long)
	for {
		f(slices.Clone(keys))
		i := 0
		for ; i < long && keys[i] == limit-1; i++ {
			keys[i] = 0
		}
		if i == long {
			return
		}
		keys[i]++
	}
}

func TestAllShortHeaps(t *testing.T) {
	for long := range 7 {
		each(long, 4, func(keys []int) {
			h, m := filled(t, keys...)
			drain(t, h, m)
		})
	}
}

func TestTurnInAllShortHeaps(t *testing.T) {
	each(5, 3, func(keys []int) {
		for id := range keys {
			for key := -1; key <= 3; key++ {
				h, m := filled(t, keys...)
				if err := h.Turn(id, key); err != api.OK {
					t.Fatalf("Turn(%d, %d) is %d", id, key, err)
				}
				m[id] = key
				drain(t, h, m)
			}
		}
	})
}

func TestOutOfAllShortHeaps(t *testing.T) {
	each(6, 3, func(keys []int) {
		for id := range keys {
			h, m := filled(t, keys...)
			if key, err := h.Out(id); key != keys[id] || err != api.OK {
				t.Fatalf("Out(%d) is %d, %d, not %d", id, key, err, keys[id])
			}
			delete(m, id)
			drain(t, h, m)
		}
	})
}

// What fills the gap comes from another branch here, and must go up in this one.
func TestOutOfABranchWithGreaterKeys(t *testing.T) {
	keys := []int{0, 100, 1, 101, 102, 2, 3, 103, 104, 105, 106, 4, 5, 6, 7}
	for id := range keys {
		h, m := filled(t, keys...)
		h.Out(id)
		delete(m, id)
		drain(t, h, m)
	}
}

// steps is a row of numbers that look as if they came by chance.
type steps uint64

func (s *steps) below(n int) int {
	*s = *s*6364136223846793005 + 1442695040888963407
	return int(uint64(*s)>>33) % n
}

// walk does one step with a heap and with its model.
func walk(t *testing.T, s *steps, h *Heap[string], m model[string]) {
	t.Helper()
	id, key := s.below(40), strings.Repeat("k", s.below(9))
	old, there := m[id]
	want := api.ErrNone
	if there {
		want = api.OK
	}
	switch s.below(5) {
	case 0, 1:
		if err := h.Push(id, key); (err == api.OK) == there || there && err != api.ErrThere {
			t.Fatalf("Push(%d, %q) is %d", id, key, err)
		}
		if !there {
			m[id] = key
		}
	case 2:
		if err := h.Turn(id, key); err != want {
			t.Fatalf("Turn(%d, %q) is %d", id, key, err)
		}
		if there {
			m[id] = key
		}
	case 3:
		if got, err := h.Out(id); got != old || err != want {
			t.Fatalf("Out(%d) is %q, %d", id, got, err)
		}
		delete(m, id)
	case 4:
		first, key, err := h.Pop()
		if len(m) == 0 && err != api.ErrNone || len(m) > 0 && (first != m.order()[0] || key != m[first] || err != api.OK) {
			t.Fatalf("Pop is %d, %q, %d", first, key, err)
		}
		delete(m, first)
	}
}

func TestLongWalks(t *testing.T) {
	s := steps(1)
	for range 30 {
		h, m := New[string](), model[string]{}
		for range 500 {
			walk(t, &s, h, m)
			same(t, h, m)
		}
		drain(t, h, m)
	}
}

// Going through all of so many for each call would not come to an end.
func TestManyIDs(t *testing.T) {
	const many = 1 << 18
	h := New[int]()
	for id := range many {
		h.Push(id, many-id)
	}
	for id := 0; id < many; id += 2 {
		if err := h.Turn(id, -id); err != api.OK {
			t.Fatalf("Turn(%d) is %d", id, err)
		}
	}
	for id := 0; id < many; id += 4 {
		if key, err := h.Out(id); key != -id || err != api.OK {
			t.Fatalf("Out(%d) is %d, %d", id, key, err)
		}
	}
	for want := many - 2; want > 0; want -= 4 {
		if id, key, err := h.Pop(); id != want || key != -want || err != api.OK {
			t.Fatalf("Pop is %d, %d, %d, not %d", id, key, err, want)
		}
	}
	for want := many - 1; want > 0; want -= 2 {
		if id, key, err := h.Pop(); id != want || key != many-want || err != api.OK {
			t.Fatalf("Pop is %d, %d, %d, not %d", id, key, err, want)
		}
	}
	empty(t, h)
}
