package admit

import (
	"math"
	"math/big"
	"slices"
	"testing"

	"ringhall/api"
)

// wide are ten tasks whose periods have 2329089562800, the multiple of all
// numbers up to 30, as theirs.
func wide() []Use {
	return uses(1, 16, 1, 27, 1, 25, 1, 7, 1, 11, 1, 13, 1, 17, 1, 19, 1, 23, 1, 29)
}

const widest = 2329089562800

func TestConstants(t *testing.T) {
	if MaxPeriod != 30 || MaxSpan != 100000 {
		t.Errorf("the constants are %d, %d", MaxPeriod, MaxSpan)
	}
}

func TestExampleOfTheDocument(t *testing.T) {
	l := uses(1, 2, 1, 3, 1, 6)
	isShare(t, l, big.NewRat(1, 1))
	isFit(t, l, 1, true)
}

// Every task that there may be, alone and in each place of a full list.
func TestCheck(t *testing.T) {
	if err := Check(nil); err != api.OK {
		t.Errorf("Check of no tasks is %d", err)
	}
	for _, u := range allUses(30) {
		for long := 1; long <= 16; long++ {
			l := of(long, 30, 30)
			for i := range l {
				l[i] = u
				if err := Check(l); err != api.OK {
					t.Errorf("Check(%v) is %d", l, err)
				}
			}
		}
	}
}

// One bad task is enough, wherever it stands.
func TestCheckOfBadTasks(t *testing.T) {
	var bad []Use
	for _, n := range badTimes {
		bad = append(bad, Use{1, n}, Use{n, n}, Use{n, 1}, Use{n, 12}, Use{n, 30})
	}
	for period := 1; period <= 30; period++ {
		bad = append(bad, Use{period + 1, period}, Use{0, period}, Use{-1, period}, Use{-period, -period})
	}
	for _, u := range bad {
		for _, long := range []int{1, 2, 16} {
			for i := range long {
				l := of(long, 1, 1)
				l[i] = u
				fails(t, l, api.ErrArg)
			}
		}
	}
	fails(t, make([]Use, 16), api.ErrArg)
}

// More than 16 tasks are told first, whatever they are.
func TestCheckOfTooMany(t *testing.T) {
	for _, long := range []int{17, 18, 32, 1000} {
		fails(t, of(long, 1, 30), api.ErrLarge)
		fails(t, of(long, 0, 30), api.ErrLarge)
		fails(t, of(long, 2, 1), api.ErrLarge)
		fails(t, make([]Use, long), api.ErrLarge)
	}
	// Tasks that only lie behind the end of the list are none of it.
	l := of(17, 1, 30)
	isShare(t, l[:16], big.NewRat(16, 30))
}

func TestRound(t *testing.T) {
	isRound(t, nil, 1)
	isRound(t, []Use{}, 1)
	isRound(t, uses(1, 2, 1, 3, 1, 6), 6)
	isRound(t, uses(1, 6, 1, 3, 1, 2), 6)
	isRound(t, uses(1, 1), 1)
	isRound(t, uses(4, 4, 3, 6), 12)
	isRound(t, uses(1, 6, 1, 10, 1, 15), 30)
	isRound(t, uses(8, 8, 1, 12, 1, 18), 72)
	isRound(t, uses(1, 28, 1, 29, 1, 30), 12180)
	isRound(t, of(16, 1, 30), 30)
	isRound(t, wide(), widest)
	isRound(t, append(wide(), uses(30, 30, 1, 28, 1, 24, 1, 18, 1, 20, 1, 1)...), widest)
}

// Costs have no part in it.
func TestRoundOfTwo(t *testing.T) {
	for a := 1; a <= 30; a++ {
		isRound(t, uses(a, a), a)
		for b := 1; b <= 30; b++ {
			want := a
			for want%b != 0 {
				want += a
			}
			isRound(t, uses(1, a, b, b), want)
			isRound(t, uses(a, a, 1, b), want)
		}
	}
}

func TestRoundOfMany(t *testing.T) {
	for _, l := range someLists() {
		isRound(t, l, wantRound(l))
	}
}

func TestShare(t *testing.T) {
	isShare(t, nil, big.NewRat(0, 1))
	isShare(t, []Use{}, big.NewRat(0, 1))
	isShare(t, uses(6, 8), big.NewRat(3, 4))
	isShare(t, uses(1, 6, 1, 10), big.NewRat(4, 15))
	isShare(t, uses(1, 2, 1, 3), big.NewRat(5, 6))
	isShare(t, uses(1, 4, 1, 4, 1, 2), big.NewRat(1, 1))
	isShare(t, uses(2, 3, 2, 3, 5, 6), big.NewRat(13, 6))
	isShare(t, of(16, 30, 30), big.NewRat(16, 1))
	isShare(t, of(16, 1, 30), big.NewRat(8, 15))
	// The greatest numbers that there can be.
	isShare(t, wide(), big.NewRat(1489784613787, widest))
	most := uses(30, 30, 29, 30, 24, 24, 1, 28, 20, 20, 18, 18, 15, 16, 26, 27, 24, 25, 6, 7, 10, 11, 12, 13, 16, 17, 18, 19, 22, 23, 28, 29)
	isShare(t, most, big.NewRat(33452104279553, widest))
}

// The numbers themselves: others could stand for the same fraction.
func TestShareIsPlain(t *testing.T) {
	for _, c := range []struct {
		l    []Use
		a, b int
	}{
		{nil, 0, 1}, {uses(30, 30), 1, 1}, {uses(2, 4), 1, 2}, {uses(10, 15, 1, 3), 1, 1},
		{uses(3, 4, 3, 4, 3, 4, 3, 4), 3, 1}, {uses(9, 10, 1, 15), 29, 30},
	} {
		if a, b, err := Share(c.l); a != c.a || b != c.b || err != api.OK {
			t.Errorf("Share(%v) is %d, %d, %d, not %d, %d", c.l, a, b, err, c.a, c.b)
		}
	}
}

func TestShareOfFew(t *testing.T) {
	for _, u := range allUses(30) {
		isShare(t, []Use{u}, wantShare([]Use{u}))
	}
	for _, l := range allLists(3, 6) {
		isShare(t, l, wantShare(l))
	}
}

func TestShareOfMany(t *testing.T) {
	for _, l := range someLists() {
		isShare(t, l, wantShare(l))
	}
}

// Lists that take some processors as a whole, and with one tick in 30 more.
func TestFits(t *testing.T) {
	for cpus := 1; cpus <= 4; cpus++ {
		isFit(t, nil, cpus, true)
		isFit(t, []Use{}, cpus, true)
		for _, u := range uses(1, 1, 30, 30) {
			for long := range 12 {
				l := of(long, u.Cost, u.Period)
				isFit(t, l, cpus, long <= cpus)
				isFit(t, append(l, Use{1, 30}), cpus, long < cpus)
				isFit(t, append(l, Use{29, 30}), cpus, long < cpus)
			}
		}
		for long := range 16 {
			isFit(t, of(long, 1, 3), cpus, long <= 3*cpus)
			isFit(t, of(long, 2, 5), cpus, 2*long <= 5*cpus)
		}
	}
}

// Sums that are a number of processors and as good as nothing more, or less:
// one part in 2329089562800 more than 4 is the least of all that there can be.
func TestFitsByTheLeastPart(t *testing.T) {
	for _, c := range []struct {
		l           []Use
		whole, more int
	}{
		{uses(7, 27, 7, 25, 1, 7, 3, 13, 1, 19, 1, 29), 1, -1},
		{uses(2, 16, 3, 25, 2, 7, 1, 13, 3, 17, 1, 23, 5, 29), 1, 2},
		{uses(2, 16, 1, 27, 2, 25, 2, 7, 5, 11, 5, 17, 6, 19, 7, 23, 3, 29), 2, -2},
		{uses(1, 16, 2, 27, 2, 25, 5, 7, 3, 11, 2, 17, 7, 19, 9, 29), 2, 1},
		{uses(6, 16, 13, 27, 3, 25, 1, 11, 6, 13, 4, 17, 12, 19, 2, 23, 15, 29), 3, -2},
		{uses(6, 16, 2, 27, 21, 25, 2, 7, 3, 11, 1, 13, 14, 17, 1, 19, 3, 23, 2, 29), 3, 2},
		{uses(11, 16, 20, 27, 14, 25, 6, 11, 3, 13, 2, 17, 6, 19, 1, 23, 22, 29), 4, -1},
		{uses(3, 16, 1, 27, 23, 25, 1, 7, 7, 11, 7, 13, 7, 17, 10, 19, 13, 23, 1, 29), 4, 1},
	} {
		all := wantRound(c.l)
		isShare(t, c.l, big.NewRat(int64(c.whole*all+c.more), int64(all)))
		for cpus := 1; cpus <= 4; cpus++ {
			isFit(t, c.l, cpus, c.whole < cpus || c.whole == cpus && c.more < 0)
		}
	}
}

func TestFitsOfMany(t *testing.T) {
	for _, l := range append(allLists(3, 4), someLists()...) {
		for cpus := 1; cpus <= 4; cpus++ {
			isFit(t, l, cpus, wantShare(l).Cmp(big.NewRat(int64(cpus), 1)) <= 0)
		}
	}
}

func TestFitsOfBadProcessors(t *testing.T) {
	for _, l := range [][]Use{nil, uses(1, 2), of(16, 30, 30), wide()} {
		for _, cpus := range []int{math.MinInt, math.MinInt + 1, -1 << 32, -4, -1, 0, 5, 6, 257, 1<<32 + 1, 1<<60 + 2, math.MaxInt} {
			if fits, err := Fits(l, cpus); fits || err != api.ErrArg {
				t.Errorf("Fits(%v, %d) is %t, %d", l, cpus, fits, err)
			}
		}
	}
}

func TestDemand(t *testing.T) {
	for _, c := range []struct {
		l          []Use
		span, want int
	}{
		{nil, 0, 0},
		{nil, 100000, 0},
		{uses(1, 2, 1, 3, 1, 6), 7, 6},
		{uses(1, 2, 1, 3, 1, 6), 5, 3},
		{uses(1, 2, 1, 3, 1, 6), 1, 0},
		// Whole jobs only: not 3 * 7 / 4.
		{uses(3, 4), 0, 0},
		{uses(3, 4), 3, 0},
		{uses(3, 4), 4, 3},
		{uses(3, 4), 7, 3},
		{uses(3, 4), 8, 6},
		{uses(2, 3, 4, 5), 14, 16},
		{uses(2, 3, 4, 5), 15, 22},
		{uses(1, 1), 99999, 99999},
		{uses(29, 30), 99989, 29 * 3332},
		{uses(29, 30), 99990, 29 * 3333},
		{uses(29, 30), 100000, 29 * 3333},
		{uses(7, 11), 100000, 7 * 9090},
		{of(16, 30, 30), 100000, 16 * 99990},
		{of(16, 1, 1), 100000, 1600000},
	} {
		isDemand(t, c.l, c.span, c.want)
	}
}

func TestDemandOfEveryTask(t *testing.T) {
	for _, u := range allUses(30) {
		for _, span := range []int{0, 1, u.Period - 1, u.Period, u.Period + 1, 2*u.Period - 1, 2 * u.Period, 100, 99999, 100000} {
			isDemand(t, []Use{u}, span, wantDemand([]Use{u}, span))
		}
	}
}

// Every length, for several tasks: a tick more has the jobs more that end with it.
func TestDemandOfEveryLength(t *testing.T) {
	l := append(wide(), uses(30, 30, 4, 4, 7, 12, 18, 28, 2, 3, 1, 1)...)
	want := 0
	for span := 0; span <= MaxSpan; span++ {
		for _, u := range l {
			if span > 0 && span%u.Period == 0 {
				want += u.Cost
			}
		}
		isDemand(t, l, span, want)
	}
}

func TestDemandOfMany(t *testing.T) {
	for i, l := range someLists() {
		for _, span := range []int{i, 31 * i, MaxSpan - i} {
			isDemand(t, l, span, wantDemand(l, span))
		}
	}
}

// In the time in which all periods end together, the demand is that part of it which Share tells.
func TestDemandOfARound(t *testing.T) {
	for _, l := range append(allLists(3, 5), someLists()...) {
		n, _ := Round(l)
		a, b, _ := Share(l)
		if n <= MaxSpan {
			isDemand(t, l, n, n/b*a)
		}
	}
}

func TestDemandOfBadLengths(t *testing.T) {
	for _, l := range [][]Use{nil, uses(1, 2), of(16, 30, 30), wide()} {
		for _, span := range []int{math.MinInt, math.MinInt + 1, -1 << 32, -100000, -30, -1, 100001, 100002, 1<<32 + 1, 1<<60 + 2, math.MaxInt} {
			if n, err := Demand(l, span); n != 0 || err != api.ErrArg {
				t.Errorf("Demand(%v, %d) is %d, %d", l, span, n, err)
			}
		}
	}
}

// One call after another tells the same, and neither a list nor the memory behind it is written to.
func TestArgumentsStay(t *testing.T) {
	whole := uses(1, 2, 1, 3, 3, 6, 77, 5)
	before := slices.Clone(whole)
	l := whole[:3]
	for range 3 {
		isRound(t, l, 6)
		isShare(t, l, big.NewRat(4, 3))
		isFit(t, l, 1, false)
		isFit(t, l, 2, true)
		isDemand(t, l, 12, 16)
		isLate(t, l, 12, 2)
		fails(t, whole, api.ErrArg)
		if !slices.Equal(whole, before) {
			t.Fatalf("the list is %v, not %v", whole, before)
		}
	}
}
