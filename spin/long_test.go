package spin

import "testing"

// chance is a row of numbers that look as if they came by chance.
type chance uint64

func (c *chance) below(n int) int {
	*c = *c*6364136223846793005 + 1442695040888963407
	return int(uint64(*c)>>33) % n
}

// one of some numbers up to a bound, and at times of bad ones.
func (c *chance) one(n int, bad []int) int {
	if c.below(20) == 0 {
		return bad[c.below(len(bad))]
	}
	return c.below(n)
}

// Every row of five calls of a Lock, with tickets that wrap around on the way.
func TestAllShortRowsOfALock(t *testing.T) {
	const kinds = 9 // a Take and a Free of each processor, and bad ones
	for row := range kinds * kinds * kinds * kinds * kinds {
		p := lockFrom(t, 0xfffe)
		for left, n := row, 0; n < 5; n++ {
			switch kind := left % kinds; kind {
			case 8:
				p.take(4)
				p.free(-1)
			default:
				if kind < 4 {
					p.take(kind)
				} else {
					p.free(kind - 4)
				}
			}
			left /= kinds
		}
		p.rest()
	}
}

func TestLongWalksOfALock(t *testing.T) {
	c := chance(13)
	for _, first := range corners {
		for _, frees := range []int{2, 3, 5} {
			p := lockFrom(t, first)
			for range 1000 {
				i := c.one(4, badCpus)
				if c.below(5) < frees {
					p.free(i)
				} else {
					p.take(i)
				}
			}
			p.rest()
		}
	}
}

// Every row of six calls of an Off, from each side of each bound of its stack.
func TestAllShortRowsOfAnOff(t *testing.T) {
	const kinds = 5
	for _, deep := range []int{0, 1, 14, 16} {
		for row := range kinds * kinds * kinds * kinds * kinds * kinds {
			p := maskOf(t)
			p.saves(deep)
			for left, n := row, 0; n < 6; n++ {
				switch left % kinds {
				case 0:
					p.save()
				case 1:
					p.back()
				case 2:
					p.come(0)
				case 3:
					p.come(31)
				case 4:
					p.come(32)
				}
				left /= kinds
			}
			p.rest()
		}
	}
}

func TestLongWalksOfAnOff(t *testing.T) {
	c := chance(31)
	for _, all := range []int{1, 2, 5, 32} {
		for _, calls := range []int{4, 5, 8, 30} { // of these, two are a Save or a Back
			for _, saves := range []int{1, 2, 3} {
				p := maskOf(t)
				for range 2000 {
					switch {
					case c.below(calls) > 1:
						p.come(c.one(all, badLines))
					case c.below(4) < saves:
						p.save()
					default:
						p.back()
					}
				}
				p.rest()
			}
		}
	}
}
