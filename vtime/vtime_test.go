package vtime

import (
	"math"
	"math/big"
	"slices"
	"testing"

	"ringhall/api"
)

// Numbers just outside the bounds, far outside, and such that go round into
// the bounds when they are cut to fewer bits, or negated.
var (
	badWeights = []int{math.MinInt, math.MinInt + 1, -1 << 32, -100, -1, 0, 101, 102, 257, 1<<32 + 1, 1<<60 + 50, math.MaxInt}
	badTicks   = []int{math.MinInt, math.MinInt + 1, -1 << 32, -1 << 30, -1, 1<<30 + 1, 1 << 31, 1 << 32, 1<<32 + 1, math.MaxInt}
	badTimes   = []int{math.MinInt, math.MinInt + 1, -1 << 60, -1 << 32, -1, 1<<60 + 1, 1 << 61, math.MaxInt}
)

// Numbers at the bounds and between them.
var (
	goodTicks = []int{0, 1, 2, 3, 1000, 1<<20 - 1, 1<<29 + 12345, 1<<30 - 1, 1 << 30}
	goodTimes = []int{0, 1, 2, 1 << 20, 1<<32 - 1, 1 << 32, 1<<59 + 7, 1<<60 - 1, 1 << 60}
)

func TestConstants(t *testing.T) {
	if MaxWeight != 100 || Unit != 1048576 || MaxTicks != 1073741824 {
		t.Errorf("the constants are %d, %d, %d", MaxWeight, Unit, MaxTicks)
	}
}

// The document's example, both ends, and quotients whose fractions are close to 0, 1/2 and 1.
func TestCost(t *testing.T) {
	for weight, want := range map[int]int{
		1: 1048576, 2: 524288, 3: 349525, 5: 209715, 6: 174762, 7: 149796, 11: 95325,
		33: 31775, 64: 16384, 75: 13981, 97: 10810, 99: 10591, 100: 10485,
	} {
		if cost, err := Cost(weight); cost != want || err != api.OK {
			t.Errorf("Cost(%d) is %d, %d, not %d", weight, cost, err, want)
		}
	}
}

// A quotient that is rounded down is the greatest number that fits in so often.
func TestCostOfEveryWeight(t *testing.T) {
	for weight := 1; weight <= 100; weight++ {
		cost, err := Cost(weight)
		if cost*weight > 1<<20 || (cost+1)*weight <= 1<<20 || err != api.OK {
			t.Errorf("Cost(%d) is %d, %d", weight, cost, err)
		}
	}
}

func TestCostOfBadWeights(t *testing.T) {
	for _, weight := range badWeights {
		if cost, err := Cost(weight); cost != 0 || err != api.ErrArg {
			t.Errorf("Cost(%d) is %d, %d", weight, cost, err)
		}
	}
}

// The greatest result of all is 2^60 + 2^50. Ticks are charged one by one:
// what Cost rounds down is lost for each of them.
func TestAfter(t *testing.T) {
	for _, c := range []struct{ v, weight, ticks, want int }{
		{0, 1, 0, 0},
		{7, 100, 2, 20977},
		{0, 3, 1, 349525},
		{0, 3, 3, 1048575},
		{5, 3, 0, 5},
		{1, 99, 99, 1048510},
		{10, 2, 1, 524298},
		{1 << 60, 50, 0, 1 << 60},
		{1 << 60, 1, 1 << 30, 1<<60 + 1<<50},
		{0, 100, 1 << 30, 11258183024640},
	} {
		if v, err := After(c.v, c.weight, c.ticks); v != c.want || err != api.OK {
			t.Errorf("After(%d, %d, %d) is %d, %d, not %d", c.v, c.weight, c.ticks, v, err, c.want)
		}
	}
}

// Numbers of any length show whether a result has gone round.
func TestAfterOfEveryWeight(t *testing.T) {
	for weight := 1; weight <= 100; weight++ {
		for _, v := range goodTimes {
			for _, ticks := range goodTicks {
				want := big.NewInt(int64(1048576 / weight))
				want.Mul(want, big.NewInt(int64(ticks)))
				want.Add(want, big.NewInt(int64(v)))
				if got, err := After(v, weight, ticks); big.NewInt(int64(got)).Cmp(want) != 0 || err != api.OK {
					t.Errorf("After(%d, %d, %d) is %d, %d, not %s", v, weight, ticks, got, err, want)
				}
			}
		}
	}
}

// One bad argument is enough, wherever the others stand within their bounds.
func TestAfterOfBadArguments(t *testing.T) {
	refused := func(v, weight, ticks int) {
		t.Helper()
		if got, err := After(v, weight, ticks); got != 0 || err != api.ErrArg {
			t.Errorf("After(%d, %d, %d) is %d, %d", v, weight, ticks, got, err)
		}
	}
	for _, v := range goodTimes {
		for _, ticks := range goodTicks {
			for _, weight := range badWeights {
				refused(v, weight, ticks)
			}
		}
		for _, weight := range []int{1, 50, 100} {
			for _, ticks := range badTicks {
				refused(v, weight, ticks)
			}
		}
	}
	for _, v := range badTimes {
		for _, weight := range []int{1, 50, 100} {
			for _, ticks := range goodTicks {
				refused(v, weight, ticks)
			}
		}
		for _, weight := range badWeights {
			for _, ticks := range badTicks {
				refused(v, weight, ticks)
			}
		}
	}
}

// of makes a slice of so many equal numbers.
func of(long, n int) []int {
	return slices.Repeat([]int{n}, long)
}

func TestLag(t *testing.T) {
	// One task of 16 has all ticks, and the others have all weights.
	longTicks := append(of(15, 0), 1<<30)
	longWeights := append(of(15, 100), 1)
	for n, c := range []struct {
		weights, ticks []int
		i, want        int
	}{
		{[]int{1, 3}, []int{4, 4}, 0, -8},
		{[]int{1, 3}, []int{4, 4}, 1, 8},
		{[]int{1, 3}, []int{1, 3}, 0, 0},
		{[]int{1, 3}, []int{1, 3}, 1, 0},
		{[]int{5}, []int{9}, 0, 0},
		{[]int{100}, []int{1 << 30}, 0, 0},
		{[]int{2, 3, 5}, []int{7, 11, 13}, 0, -8},
		{[]int{2, 3, 5}, []int{7, 11, 13}, 1, -17},
		{[]int{2, 3, 5}, []int{7, 11, 13}, 2, 25},
		{[]int{2, 3, 5}, []int{0, 0, 0}, 1, 0},
		{of(16, 100), of(16, 1<<30), 15, 0},
		{longWeights, longTicks, 15, -1500 << 30},
		{longWeights, longTicks, 0, 100 << 30},
		{append([]int{100}, of(15, 1)...), append([]int{0}, of(15, 1<<30)...), 0, 1500 << 30},
	} {
		if lag, err := Lag(c.weights, c.ticks, c.i); lag != c.want || err != api.OK {
			t.Errorf("the lag %d is %d, %d, not %d", n, lag, err, c.want)
		}
	}
}

// chance is a row of numbers that look as if they came by chance.
type chance uint64

func (c *chance) below(n int) int {
	*c = *c*6364136223846793005 + 1442695040888963407
	return int(uint64(*c)>>33) % n
}

// some makes weights and ticks of so many tasks.
func (c *chance) some(long int) (weights, ticks []int) {
	for range long {
		weights = append(weights, 1+c.below(100))
		ticks = append(ticks, goodTicks[c.below(len(goodTicks))])
	}
	return weights, ticks
}

// wantLag is what the document says of one task's lag, task by task: what each
// one has, by the weight of the one, less what the one has, by the weight of each.
func wantLag(weights, ticks []int, i int) *big.Int {
	sum := new(big.Int)
	for k := range weights {
		gain := big.NewInt(int64(weights[i]))
		gain.Mul(gain, big.NewInt(int64(ticks[k])))
		loss := big.NewInt(int64(weights[k]))
		loss.Mul(loss, big.NewInt(int64(ticks[i])))
		sum.Add(sum, gain.Sub(gain, loss))
	}
	return sum
}

// Every number of tasks, and each of them; the lags of all add up to 0.
func TestLagOfMany(t *testing.T) {
	c := chance(5)
	for round := range 50 {
		for long := 1; long <= 16; long++ {
			weights, ticks := c.some(long)
			sum := 0
			for i := range long {
				lag, err := Lag(weights, ticks, i)
				if want := wantLag(weights, ticks, i); big.NewInt(int64(lag)).Cmp(want) != 0 || err != api.OK {
					t.Fatalf("in round %d, Lag(%d, %d, %d) is %d, %d, not %s", round, weights, ticks, i, lag, err, want)
				}
				sum += lag
			}
			if sum != 0 {
				t.Fatalf("in round %d, the lags of %d, %d add up to %d", round, weights, ticks, sum)
			}
		}
	}
}

// lagFails checks that a lag is refused for one reason.
func lagFails(t *testing.T, weights, ticks []int, i int, want api.Errno) {
	t.Helper()
	if lag, err := Lag(weights, ticks, i); lag != 0 || err != want {
		t.Errorf("Lag(%d, %d, %d) is %d, %d, not %d", weights, ticks, i, lag, err, want)
	}
}

// More than 16 elements are told first, whatever else is wrong.
func TestLagOfTooMany(t *testing.T) {
	for _, weight := range []int{1, 0} {
		for _, n := range []int{5, -1} {
			for _, i := range []int{0, 16, 17, -1} {
				lagFails(t, of(17, weight), of(17, n), i, api.ErrLarge)
				lagFails(t, of(17, weight), of(16, n), i, api.ErrLarge)
				lagFails(t, of(16, weight), of(17, n), i, api.ErrLarge)
				lagFails(t, of(17, weight), nil, i, api.ErrLarge)
				lagFails(t, nil, of(17, n), i, api.ErrLarge)
				lagFails(t, of(1000, weight), of(1000, n), i, api.ErrLarge)
			}
		}
	}
	if lag, err := Lag(of(16, 1), of(16, 5), 15); lag != 0 || err != api.OK {
		t.Errorf("the lag of 16 is %d, %d", lag, err)
	}
}

// Different lengths are told before what the elements and the index are.
func TestLagOfDifferentLengths(t *testing.T) {
	for _, weight := range []int{1, 101} {
		for _, n := range []int{5, -1} {
			for _, i := range []int{0, 1, 15, 16, -1} {
				for many := range 17 {
					for few := range many {
						lagFails(t, of(many, weight), of(few, n), i, api.ErrForm)
						lagFails(t, of(few, weight), of(many, n), i, api.ErrForm)
					}
				}
			}
		}
	}
}

// A bad element is told wherever it stands, and before what the index is.
func TestLagOfBadElements(t *testing.T) {
	for long := 1; long <= 16; long++ {
		for bad := range long {
			for _, i := range []int{0, bad, long - 1, long, -1} {
				for _, weight := range badWeights {
					weights := of(long, 100)
					weights[bad] = weight
					lagFails(t, weights, of(long, 1<<30), i, api.ErrArg)
				}
				for _, n := range badTicks {
					ticks := of(long, 0)
					ticks[bad] = n
					lagFails(t, of(long, 1), ticks, i, api.ErrArg)
				}
			}
		}
	}
}

func TestLagOfNobody(t *testing.T) {
	for long := range 17 {
		for _, i := range []int{math.MinInt, -1 << 32, -long - 1, -1, long, long + 1, 1 << 32, math.MaxInt} {
			lagFails(t, of(long, 2), of(long, 3), i, api.ErrNone)
		}
	}
	lagFails(t, nil, nil, 0, api.ErrNone)
	lagFails(t, []int{}, nil, 0, api.ErrNone)
	lagFails(t, nil, []int{}, 0, api.ErrNone)
}

// A slice's spare memory counts for nothing, and is not written to either.
func TestLagChangesNothing(t *testing.T) {
	weights, ticks := []int{1, 3, 101, 77}, []int{4, 4, -1, 77}
	for range 3 {
		if lag, err := Lag(weights[:2], ticks[:2], 1); lag != 8 || err != api.OK {
			t.Errorf("Lag is %d, %d", lag, err)
		}
		lagFails(t, weights[:3], ticks[:3], 1, api.ErrArg)
		lagFails(t, weights[:2], ticks[:2], 2, api.ErrNone)
	}
	if !slices.Equal(weights, []int{1, 3, 101, 77}) || !slices.Equal(ticks, []int{4, 4, -1, 77}) {
		t.Errorf("the arguments are %d, %d afterwards", weights, ticks)
	}
}
