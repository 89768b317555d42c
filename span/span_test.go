package span

import (
	"math"
	"testing"

	"ringhall/api"
)

func TestNew(t *testing.T) {
	empty(t, New[int]())
	empty(t, New[string]())
	empty(t, New[float64]())
	empty(t, New[uint8]())
}

// A Tree that New did not make is empty, and can be filled.
func TestTreeWithoutNew(t *testing.T) {
	var x Tree[string]
	var m model[string]
	empty(t, &x)
	both(t, &x, &m, "b", 3, 4)
	both(t, &x, &m, "a", 3, 5)
	drained(t, &x, m)
}

func TestExampleOfTheDocument(t *testing.T) {
	x, m := filled(t, element[int]{3, 1, 7}, element[int]{4, 1, 2})
	if got := x.Ahead(4, 1); got != 7 {
		t.Errorf("Ahead(4, 1) is %d", got)
	}
	drained(t, x, m)
}

func TestOneElement(t *testing.T) {
	x, m := filled(t, element[int]{3, 1, 7})
	if x.Len() != 1 || x.Sum() != 7 || x.Deep() != 1 {
		t.Errorf("Len, Sum and Deep are %d, %d and %d", x.Len(), x.Sum(), x.Deep())
	}
	tell(x.Least()).is(t, "Least", tell(3, 1, 7, api.OK))
	drained(t, x, m)
}

// Elements come in the order of their keys, and only then of their ids.
func TestOrder(t *testing.T) {
	x, m := filled(t, element[int]{5, 1, 1}, element[int]{5, -9, 2}, element[int]{-5, 9, 4}, element[int]{0, 3, 8}, element[int]{0, 2, 16})
	for i, id := range []int{9, 2, 3, -9, 1} {
		if m[i].id != id {
			t.Errorf("the model has the order %v", m)
		}
	}
	drained(t, x, m)
}

// An element is another one if its key or its id is another one.
func TestSameKeyOrSameID(t *testing.T) {
	x, m := New[int](), model[int]{}
	for key := range 4 {
		for id := range 4 {
			both(t, x, &m, key, id, 10*key+id)
		}
	}
	if x.Len() != 16 {
		t.Errorf("Len is %d", x.Len())
	}
	drained(t, x, m)
}

func TestWeightsOutOfBounds(t *testing.T) {
	x, m := filled(t, element[int]{1, 1, 0}, element[int]{2, 2, MaxWeight})
	if MaxWeight != 1000000 || x.Sum() != MaxWeight {
		t.Errorf("MaxWeight and Sum are %d and %d", MaxWeight, x.Sum())
	}
	for _, weight := range []int{math.MinInt, -1000001, -1, MaxWeight + 1, math.MaxInt} {
		// The elements 1 and 2 are there: the weight is looked at first.
		for i := range 4 {
			if err := x.Put(i, i, weight); err != api.ErrArg {
				t.Errorf("Put(%d, %d, %d) is %d", i, i, weight, err)
			}
		}
		same(t, x, m)
		var y Tree[string]
		if err := y.Put("", 0, weight); err != api.ErrArg {
			t.Errorf("Put into an empty tree with the weight %d is %d", weight, err)
		}
		empty(t, &y)
	}
	drained(t, x, m)
}

func TestPutAgain(t *testing.T) {
	x, m := filled(t, element[string]{"b", 1, 5}, element[string]{"a", 2, 0}, element[string]{"c", 1, 7})
	for _, e := range m {
		for _, weight := range []int{0, 1, e.weight, MaxWeight} {
			if err := x.Put(e.key, e.id, weight); err != api.ErrThere {
				t.Errorf("Put(%q, %d, %d) is %d", e.key, e.id, weight, err)
			}
			same(t, x, m)
		}
	}
	drained(t, x, m)
}

func TestPutWhatHasGone(t *testing.T) {
	x, m := filled(t, element[int]{1, 1, 5}, element[int]{2, 1, 6}, element[int]{3, 1, 7})
	for key := 1; key <= 3; key++ {
		drop(t, x, &m, key, 1)
		drop(t, x, &m, key, 1)
		same(t, x, m)
		both(t, x, &m, key, 1, 100*key)
		same(t, x, m)
	}
	if x.Sum() != 600 {
		t.Errorf("Sum is %d", x.Sum())
	}
	drained(t, x, m)
}

func TestOutOfWhatIsNotThere(t *testing.T) {
	x, m := filled(t, element[int]{1, 1, 5}, element[int]{2, 4, 6}, element[int]{3, 9, 7})
	for _, e := range []element[int]{{1, 0, 0}, {1, 2, 0}, {2, 1, 0}, {0, 1, 0}, {4, 9, 0}, {math.MinInt, math.MinInt, 0}, {math.MaxInt, math.MaxInt, 0}} {
		if weight, err := x.Out(e.key, e.id); weight != 0 || err != api.ErrNone {
			t.Errorf("Out(%d, %d) is %d, %d", e.key, e.id, weight, err)
		}
		same(t, x, m)
	}
	drained(t, x, m)
}

func TestPlacesWithoutAnElement(t *testing.T) {
	x, m := filled(t, element[int]{10, 5, 1}, element[int]{20, 5, 2}, element[int]{20, 7, 4}, element[int]{30, 5, 8})
	for _, c := range []struct{ key, id, next, ahead int }{
		{math.MinInt, math.MinInt, 1, 0},
		{9, 100, 1, 0},
		{10, 4, 1, 0},
		{10, 5, 2, 0},
		{10, 6, 2, 1},
		{15, 0, 2, 1},
		{20, 4, 2, 1},
		{20, 5, 4, 1},
		{20, 6, 4, 3},
		{20, 7, 8, 3},
		{20, 8, 8, 7},
		{30, 4, 8, 7},
		{30, 5, 0, 7},
		{30, 6, 0, 15},
		{math.MaxInt, math.MaxInt, 0, 15},
	} {
		_, _, weight, err := x.Next(c.key, c.id)
		if weight != c.next || (err == api.OK) != (c.next > 0) {
			t.Errorf("Next(%d, %d) has the weight %d, not %d", c.key, c.id, weight, c.next)
		}
		if got := x.Ahead(c.key, c.id); got != c.ahead {
			t.Errorf("Ahead(%d, %d) is %d, not %d", c.key, c.id, got, c.ahead)
		}
		asked(t, x, m, c.key, c.id)
	}
	drained(t, x, m)
}

func TestEveryNumberOfTheSum(t *testing.T) {
	x, m := filled(t, element[int]{1, 1, 3}, element[int]{2, 1, 1}, element[int]{3, 1, 0}, element[int]{4, 1, 5}, element[int]{5, 1, 2})
	for n, key := range []int{1, 1, 1, 2, 4, 4, 4, 4, 4, 5, 5, 0, 0} {
		if got, _, _, err := x.At(n); got != key || (err == api.OK) != (key > 0) {
			t.Errorf("At(%d) has the key %d, not %d", n, got, key)
		}
		tell(x.At(n)).is(t, "At", m.at(n))
	}
	drained(t, x, m)
}

// No number lies in an element without weight, wherever it stands.
func TestElementsWithoutWeight(t *testing.T) {
	x, m := New[int](), model[int]{}
	for key := range 20 {
		both(t, x, &m, key, 0, 0)
	}
	for n := -1; n <= 1; n++ {
		tell(x.At(n)).is(t, "At", answer[int]{err: api.ErrNone})
	}
	for key := range 20 {
		y, n := filled(t, m...)
		drop(t, y, &n, key, 0)
		both(t, y, &n, key, 0, 1)
		tell(y.At(0)).is(t, "At", tell(key, 0, 1, api.OK))
		same(t, y, n)
	}
	drained(t, x, m)
}

// A sum can be greater than 32 bits hold.
func TestGreatSums(t *testing.T) {
	x := New[int]()
	for key := range 10000 {
		x.Put(key, 1, MaxWeight)
	}
	if x.Sum() != 10000000000 || x.Ahead(9000, 1) != 9000000000 {
		t.Errorf("Sum and Ahead are %d and %d", x.Sum(), x.Ahead(9000, 1))
	}
	tell(x.At(9999999999)).is(t, "At", tell(9999, 1, MaxWeight, api.OK))
	tell(x.At(9000000000)).is(t, "At", tell(9000, 1, MaxWeight, api.OK))
	tell(x.At(10000000000)).is(t, "At", answer[int]{err: api.ErrNone})
}

func TestKeysAndIDsAtTheirEnds(t *testing.T) {
	x, m := New[int](), model[int]{}
	ends := []int{0, math.MaxInt, -1, math.MinInt, 1, -2}
	for i, key := range ends {
		for j, id := range ends {
			both(t, x, &m, key, id, 7*i+j)
		}
	}
	drained(t, x, m)
	u, n := filled(t, element[uint8]{255, 1, 1}, element[uint8]{0, 1, 2}, element[uint8]{127, 1, 3}, element[uint8]{128, 1, 4})
	drained(t, u, n)
}

func TestTextKeys(t *testing.T) {
	x, m := New[string](), model[string]{}
	for i, key := range []string{"b", "", "ab", "a", "B", "\xff", "é", "\x00", "aa"} {
		both(t, x, &m, key, -i, i)
		both(t, x, &m, key, i, i)
	}
	drained(t, x, m)
}

// A type of its own is ordered like the one that it is made of.
func TestKeysOfANamedType(t *testing.T) {
	type ticks int16
	x, m := filled(t, element[ticks]{3, 1, 1}, element[ticks]{-2, 1, 2}, element[ticks]{3, 0, 3})
	drained(t, x, m)
}

// The order of cmp.Compare has a place for what < can't order, too.
func TestFloatKeys(t *testing.T) {
	x, m := New[float64](), model[float64]{}
	for i, key := range []float64{1, math.NaN(), math.Inf(1), 0, math.Inf(-1), -5, math.NaN(), math.SmallestNonzeroFloat64} {
		both(t, x, &m, key, i, i+1)
		both(t, x, &m, key, i, i+1)
		same(t, x, m)
	}
	if key, id, _, _ := x.Least(); key == key || id != 1 {
		t.Errorf("Least is %v, %d", key, id)
	}
	if got := x.Ahead(math.Inf(-1), math.MinInt); got != 2+7 {
		t.Errorf("Ahead of all numbers is %d", got)
	}
	drained(t, x, m)
}

// Both zeros are equal keys, but a key comes back as it was put in.
func TestZerosKeepTheirSign(t *testing.T) {
	less := math.Copysign(0, -1)
	x, m := filled(t, element[float64]{less, 1, 4})
	if err := x.Put(0, 1, 4); err != api.ErrThere {
		t.Errorf("Put is %d", err)
	}
	both(t, x, &m, 0, 0, 5)
	if key, id, _, _ := x.Least(); id != 0 || math.Signbit(key) {
		t.Errorf("Least is %v, %d", key, id)
	}
	if key, id, _, _ := x.Next(less, 0); id != 1 || !math.Signbit(key) {
		t.Errorf("Next is %v, %d", key, id)
	}
	if key, id, _, _ := x.At(5); id != 1 || !math.Signbit(key) {
		t.Errorf("At is %v, %d", key, id)
	}
	drop(t, x, &m, 0, 1)
	drained(t, x, m)
}

func TestTreesAreIndependent(t *testing.T) {
	x, m := filled(t, element[int]{1, 1, 1}, element[int]{2, 1, 2}, element[int]{3, 1, 3})
	y, n := filled(t, m...)
	drop(t, x, &m, 2, 1)
	both(t, y, &n, 4, 1, 9)
	same(t, x, m)
	drained(t, y, n)
	drained(t, x, m)
}
