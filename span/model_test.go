package span

import (
	"cmp"
	"math"
	"math/bits"
	"slices"
	"testing"

	"ringhall/api"
)

// element of a tree, as a test sees it.
type element[K cmp.Ordered] struct {
	key        K
	id, weight int
}

// answer of a method that tells of an element.
type answer[K cmp.Ordered] struct {
	element[K]
	err api.Errno
}

func tell[K cmp.Ordered](key K, id, weight int, err api.Errno) answer[K] {
	return answer[K]{element[K]{key, id, weight}, err}
}

// is fails if an answer is another one. Keys are compared as the document
// does, so that a key that is not a number equals itself.
func (got answer[K]) is(t *testing.T, what string, want answer[K]) {
	t.Helper()
	if cmp.Compare(got.key, want.key) != 0 || got.id != want.id || got.weight != want.weight || got.err != want.err {
		t.Fatalf("%s is %v, not %v", what, got, want)
	}
}

// model is what a tree must hold: a plain list, searched from its beginning.
type model[K cmp.Ordered] []element[K]

func (e element[K]) against(key K, id int) int {
	if c := cmp.Compare(e.key, key); c != 0 {
		return c
	}
	return cmp.Compare(e.id, id)
}

// place is where an element stands in the order, or would stand.
func (m model[K]) place(key K, id int) (int, bool) {
	for i, e := range m {
		if c := e.against(key, id); c >= 0 {
			return i, c == 0
		}
	}
	return len(m), false
}

func (m *model[K]) put(key K, id, weight int) api.Errno {
	i, there := m.place(key, id)
	if weight < 0 || weight > 1000000 {
		return api.ErrArg
	}
	if there {
		return api.ErrThere
	}
	*m = slices.Insert(*m, i, element[K]{key, id, weight})
	return api.OK
}

func (m *model[K]) out(key K, id int) (int, api.Errno) {
	i, there := m.place(key, id)
	if !there {
		return 0, api.ErrNone
	}
	weight := (*m)[i].weight
	*m = slices.Delete(*m, i, i+1)
	return weight, api.OK
}

// first tells of the first element that has a property.
func (m model[K]) first(has func(element[K]) bool) answer[K] {
	for _, e := range m {
		if has(e) {
			return answer[K]{e, api.OK}
		}
	}
	return answer[K]{err: api.ErrNone}
}

func (m model[K]) least() answer[K] {
	return m.first(func(element[K]) bool { return true })
}

func (m model[K]) next(key K, id int) answer[K] {
	return m.first(func(e element[K]) bool { return e.against(key, id) > 0 })
}

func (m model[K]) ahead(key K, id int) int {
	sum := 0
	for _, e := range m {
		if e.against(key, id) < 0 {
			sum += e.weight
		}
	}
	return sum
}

func (m model[K]) sum() int {
	sum := 0
	for _, e := range m {
		sum += e.weight
	}
	return sum
}

func (m model[K]) at(n int) answer[K] {
	if n < 0 || n >= m.sum() {
		return answer[K]{err: api.ErrNone}
	}
	sum := 0
	return m.first(func(e element[K]) bool {
		sum += e.weight
		return sum > n
	})
}

// low fails if a tree is higher than the document allows for n elements.
func low[K cmp.Ordered](t *testing.T, x *Tree[K], n int) {
	t.Helper()
	if deep := x.Deep(); deep < bits.Len(uint(n)) || 2*deep > 3*bits.Len(uint(n))+2 {
		t.Fatalf("Deep is %d for %d elements", deep, n)
	}
}

// walk is the height of a subtree, and its elements. It fails if the two sides
// differ in height by more than 1, on which the promised height rests.
func walk[K cmp.Ordered](t *testing.T, n *node[K]) (int, model[K]) {
	t.Helper()
	if n == nil {
		return 0, nil
	}
	a, smaller := walk(t, n.left)
	b, greater := walk(t, n.right)
	if a-b < -1 || a-b > 1 {
		t.Fatalf("at key %v, id %d the sides have the heights %d and %d", n.key, n.id, a, b)
	}
	return 1 + max(a, b), slices.Concat(smaller, model[K]{{n.key, n.id, n.weight}}, greater)
}

// stored fails if the nodes of a tree are others than a model has, or not as
// deep as the tree says.
func stored[K cmp.Ordered](t *testing.T, x *Tree[K], m model[K]) {
	t.Helper()
	deep, list := walk(t, x.root)
	alike := func(e, f element[K]) bool { return e.weight == f.weight && e.against(f.key, f.id) == 0 }
	if !slices.EqualFunc(list, m, alike) {
		t.Fatalf("the tree has %v, not %v", list, m)
	}
	if x.Deep() != deep {
		t.Fatalf("Deep is %d, not %d", x.Deep(), deep)
	}
	low(t, x, len(m))
}

// asked compares what a tree tells of a place with what its model tells.
func asked[K cmp.Ordered](t *testing.T, x *Tree[K], m model[K], key K, id int) {
	t.Helper()
	tell(x.Next(key, id)).is(t, "Next", m.next(key, id))
	if got, want := x.Ahead(key, id), m.ahead(key, id); got != want {
		t.Fatalf("Ahead(%v, %d) is %d, not %d", key, id, got, want)
	}
}

// same compares everything that a tree tells with what its model tells.
func same[K cmp.Ordered](t *testing.T, x *Tree[K], m model[K]) {
	t.Helper()
	stored(t, x, m)
	if x.Len() != len(m) || x.Sum() != m.sum() {
		t.Fatalf("Len and Sum are %d and %d, not %d and %d", x.Len(), x.Sum(), len(m), m.sum())
	}
	tell(x.Least()).is(t, "Least", m.least())
	end := 0
	for _, e := range m {
		for _, id := range []int{math.MinInt, e.id - 1, e.id, e.id + 1, math.MaxInt} {
			asked(t, x, m, e.key, id)
		}
		for _, n := range []int{end, end + e.weight/2, end + e.weight - 1} {
			tell(x.At(n)).is(t, "At", m.at(n))
		}
		end += e.weight
	}
	for _, n := range []int{math.MinInt, -1000000, -1, end, end + 1, end + 1000000, math.MaxInt} {
		tell(x.At(n)).is(t, "At", answer[K]{err: api.ErrNone})
	}
	var zero K
	for _, id := range []int{math.MinInt, -1, 0, 1, math.MaxInt} {
		asked(t, x, m, zero, id)
	}
}

// both puts an element into a tree and into its model.
func both[K cmp.Ordered](t *testing.T, x *Tree[K], m *model[K], key K, id, weight int) {
	t.Helper()
	if got, want := x.Put(key, id, weight), m.put(key, id, weight); got != want {
		t.Fatalf("Put(%v, %d, %d) is %d, not %d", key, id, weight, got, want)
	}
}

// drop takes an element out of a tree and out of its model.
func drop[K cmp.Ordered](t *testing.T, x *Tree[K], m *model[K], key K, id int) {
	t.Helper()
	got, err := x.Out(key, id)
	want, wrong := m.out(key, id)
	if got != want || err != wrong {
		t.Fatalf("Out(%v, %d) is %d, %d, not %d, %d", key, id, got, err, want, wrong)
	}
}

// filled is a tree with elements, and its model.
func filled[K cmp.Ordered](t *testing.T, l ...element[K]) (*Tree[K], model[K]) {
	t.Helper()
	x, m := New[K](), model[K]{}
	for _, e := range l {
		if err := x.Put(e.key, e.id, e.weight); err != api.OK {
			t.Fatalf("Put(%v, %d, %d) is %d", e.key, e.id, e.weight, err)
		}
		m.put(e.key, e.id, e.weight)
	}
	return x, m
}

// drained takes every element out, the middle one first, and compares each time.
func drained[K cmp.Ordered](t *testing.T, x *Tree[K], m model[K]) {
	t.Helper()
	m = slices.Clone(m)
	same(t, x, m)
	for len(m) > 0 {
		e := m[len(m)/2]
		drop(t, x, &m, e.key, e.id)
		same(t, x, m)
	}
	empty(t, x)
}

// empty checks what every method, except Put, tells of a tree without elements.
func empty[K cmp.Ordered](t *testing.T, x *Tree[K]) {
	t.Helper()
	var zero K
	none := answer[K]{err: api.ErrNone}
	tell(x.Least()).is(t, "Least", none)
	for _, n := range []int{math.MinInt, -1, 0, 1, math.MaxInt} {
		tell(x.Next(zero, n)).is(t, "Next", none)
		tell(x.At(n)).is(t, "At", none)
		weight, err := x.Out(zero, n)
		if weight != 0 || err != api.ErrNone || x.Ahead(zero, n) != 0 {
			t.Fatalf("Out and Ahead in an empty tree are %d, %d and %d", weight, err, x.Ahead(zero, n))
		}
	}
	if x.Len() != 0 || x.Sum() != 0 || x.Deep() != 0 {
		t.Fatalf("Len, Sum and Deep of an empty tree are %d, %d and %d", x.Len(), x.Sum(), x.Deep())
	}
}
