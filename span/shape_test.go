package span

import (
	"slices"
	"testing"

	"ringhall/api"
)

// orders calls f with every order of the numbers below n.
func orders(n int, f func([]int)) {
	list := make([]int, n)
	for i := range list {
		list[i] = i
	}
	var from func(i int)
	from = func(i int) {
		if i == n {
			f(slices.Clone(list))
			return
		}
		for j := i; j < n; j++ {
			list[i], list[j] = list[j], list[i]
			from(i + 1)
			list[i], list[j] = list[j], list[i]
		}
	}
	from(0)
}

// keyed is a tree with the keys of a list, which came in this order.
func keyed(t *testing.T, keys []int) (*Tree[int], model[int]) {
	t.Helper()
	var l []element[int]
	for _, key := range keys {
		l = append(l, element[int]{key, key % 3, (1 << key) % 1000})
	}
	return filled(t, l...)
}

func TestAllShortTrees(t *testing.T) {
	for n := range 7 {
		orders(n, func(keys []int) {
			x, m := keyed(t, keys)
			same(t, x, m)
			drained(t, x, m)
		})
	}
}

func TestOutOfAllShortTrees(t *testing.T) {
	orders(7, func(keys []int) {
		for _, key := range keys {
			x, m := keyed(t, keys)
			drop(t, x, &m, key, key%3)
			stored(t, x, m)
			if x.Sum() != m.sum() || x.Len() != len(m) {
				t.Fatalf("without %d of %d, Sum is %d and Len is %d", key, keys, x.Sum(), x.Len())
			}
		}
	})
}

// steep lists the keys of a tree in which every left side is higher than the
// right one by 1, level by level: the highest tree of so many elements. It
// comes out so if the keys are put in this order, as nothing is turned then.
func steep(height int) []int {
	sizes := []int{0, 1}
	for len(sizes) <= height {
		sizes = append(sizes, 1+sizes[len(sizes)-1]+sizes[len(sizes)-2])
	}
	type side struct{ height, first int }
	var keys []int
	for level := []side{{height, 0}}; len(level) > 0; {
		var below []side
		for _, s := range level {
			if s.height == 0 {
				continue
			}
			left := max(s.height-1, 0)
			right := max(s.height-2, 0)
			top := s.first + sizes[left]
			keys = append(keys, top)
			below = append(below, side{left, s.first}, side{right, top + 1})
		}
		level = below
	}
	return keys
}

// What goes from the lower side of a steep tree has it turned at every level.
func TestOutOfSteepTrees(t *testing.T) {
	for height := range 9 {
		keys := steep(height)
		mirror := slices.Clone(keys)
		for i, key := range mirror {
			mirror[i] = len(keys) - 1 - key
		}
		for _, list := range [][]int{keys, mirror} {
			for _, key := range list {
				x, m := keyed(t, list)
				if x.Deep() != height {
					t.Fatalf("Deep is %d, not %d", x.Deep(), height)
				}
				drop(t, x, &m, key, key%3)
				same(t, x, m)
			}
		}
	}
}

// Ways to go through the numbers below n, which is even.
func ways(n int) map[string]func(int) int {
	return map[string]func(int) int{
		"up":      func(i int) int { return i },
		"down":    func(i int) int { return n - 1 - i },
		"inward":  func(i int) int { return i/2 + i%2*(n-1-i/2*2) },
		"outward": func(i int) int { i = n - 1 - i; return i/2 + i%2*(n-1-i/2*2) },
		"strewn":  func(i int) int { return i * 7919 % n },
	}
}

// Whatever order elements come and go in, the tree stays low.
func TestHeight(t *testing.T) {
	const n = 6000
	for in, come := range ways(n) {
		for out, leave := range ways(n) {
			x := New[int]()
			for i := range n {
				if err := x.Put(come(i), 0, 1); err != api.OK {
					t.Fatalf("%s: Put(%d) is %d", in, come(i), err)
				}
				low(t, x, i+1)
			}
			for i := range n {
				if i%1000 == 0 {
					walk(t, x.root)
				}
				if weight, err := x.Out(leave(i), 0); weight != 1 || err != api.OK {
					t.Fatalf("%s, %s: Out(%d) is %d, %d", in, out, leave(i), weight, err)
				}
				low(t, x, n-1-i)
			}
			empty(t, x)
		}
	}
}

// Going through all elements, or down a long way, for each call would not come to an end.
func TestManyElements(t *testing.T) {
	const n = 1 << 18
	x := New[int]()
	for i := range n {
		x.Put(i, i, 3)
	}
	low(t, x, n)
	for i := range n {
		if got := x.Ahead(i, i); got != 3*i {
			t.Fatalf("Ahead(%d, %d) is %d", i, i, got)
		}
		if key, _, _, _ := x.At(3*i + 2); key != i {
			t.Fatalf("At(%d) has the key %d", 3*i+2, key)
		}
		if key, _, _, _ := x.Next(i-1, i-1); key != i {
			t.Fatalf("Next(%d, %d) has the key %d", i-1, i-1, key)
		}
		x.Len()
		x.Sum()
		x.Deep()
	}
	for i := range n {
		if key, _, _, _ := x.Least(); key != i {
			t.Fatalf("Least has the key %d, not %d", key, i)
		}
		x.Out(i, i)
	}
	empty(t, x)
}

// play reads steps from text, two bytes each, and does them with a tree and with its model.
func play(t *testing.T, steps []byte) {
	x, m := New[int8](), model[int8]{}
	for ; len(steps) >= 2; steps = steps[2:] {
		key, id := int8(steps[0])%16, int(steps[1]%4)
		switch weight := int(steps[1] / 4 % 16); {
		case steps[1] >= 128:
			drop(t, x, &m, key, id)
		case weight == 15:
			both(t, x, &m, key, id, MaxWeight+id)
		default:
			both(t, x, &m, key, id, weight-1)
		}
		stored(t, x, m)
		asked(t, x, m, key, id)
		number := int(steps[0]) - 4
		tell(x.At(number)).is(t, "At", m.at(number))
	}
	same(t, x, m)
}

// Without -fuzz, only the long rows of steps that are added here are played.
func FuzzTree(f *testing.F) {
	seed := uint64(1)
	for range 20 {
		steps := make([]byte, 600)
		for i := range steps {
			seed = seed*6364136223846793005 + 1442695040888963407
			steps[i] = byte(seed >> 56)
		}
		f.Add(steps)
	}
	f.Fuzz(play)
}
