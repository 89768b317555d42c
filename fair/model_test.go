package fair

import (
	"cmp"
	"maps"
	"math"
	"slices"
	"testing"

	"ringhall/api"
)

// modelTask and modelGroup are what the document says of a task and of a group.
type modelTask struct {
	weight, group, time int
	ready               bool
}

type modelGroup struct{ weight, time int }

// model is what a Fair must hold, in the document's own words.
type model struct {
	tasks  map[int]*modelTask
	groups map[int]*modelGroup
}

func newModel() model {
	return model{map[int]*modelTask{}, map[int]*modelGroup{}}
}

// rival is a ready ungrouped task, or a runnable group.
type rival struct {
	time   int
	single bool
	number int
}

// ready lists the numbers of the ready tasks of a group (0: of the ungrouped
// ones), by virtual time and then by number.
func (m model) ready(g int) []int {
	var l []int
	for _, t := range slices.Sorted(maps.Keys(m.tasks)) {
		if x := m.tasks[t]; x.ready && x.group == g {
			l = append(l, t)
		}
	}
	slices.SortStableFunc(l, func(a, b int) int { return m.tasks[a].time - m.tasks[b].time })
	return l
}

// rivals lists all that compete for a tick, in the order of P6.4.
func (m model) rivals() []rival {
	var l []rival
	for _, t := range m.ready(0) {
		l = append(l, rival{m.tasks[t].time, true, t})
	}
	for g, x := range m.groups {
		if len(m.ready(g)) > 0 {
			l = append(l, rival{x.time, false, g})
		}
	}
	slices.SortFunc(l, func(a, b rival) int {
		if a.time == b.time && a.single != b.single {
			if b.single {
				return -1
			}
			return 1
		}
		return cmp.Or(a.time-b.time, a.number-b.number)
	})
	return l
}

func within(n, least, most int) bool {
	return n >= least && n <= most
}

func (m model) group(g, weight int) api.Errno {
	if !within(g, 1, 8) || !within(weight, 1, 100) {
		return api.ErrArg
	}
	if m.groups[g] == nil {
		m.groups[g] = &modelGroup{}
	}
	m.groups[g].weight = weight
	return api.OK
}

func (m model) add(t, weight, g int) api.Errno {
	if !within(t, 1, 16) || !within(weight, 1, 100) || !within(g, 0, 8) {
		return api.ErrArg
	}
	if m.tasks[t] != nil {
		return api.ErrThere
	}
	if g != 0 && m.groups[g] == nil {
		return api.ErrNone
	}
	m.tasks[t] = &modelTask{weight: weight, group: g}
	return m.wake(t)
}

func (m model) leave(t int) api.Errno {
	if m.tasks[t] == nil {
		return api.ErrNone
	}
	delete(m.tasks, t)
	return api.OK
}

func (m model) block(t int) api.Errno {
	x := m.tasks[t]
	if x == nil {
		return api.ErrNone
	}
	if !x.ready {
		return api.ErrState
	}
	x.ready = false
	return api.OK
}

func (m model) wake(t int) api.Errno {
	x := m.tasks[t]
	if x == nil {
		return api.ErrNone
	}
	if x.ready {
		return api.ErrState
	}
	rivals, mates := m.rivals(), m.ready(x.group)
	x.ready = true
	if x.group != 0 && len(mates) > 0 {
		x.time = max(x.time, m.tasks[mates[0]].time)
		return api.OK
	}
	if len(rivals) == 0 {
		return api.OK
	}
	if x.group == 0 {
		x.time = max(x.time, rivals[0].time)
	} else {
		m.groups[x.group].time = max(m.groups[x.group].time, rivals[0].time)
	}
	return api.OK
}

func (m model) pick() (int, api.Errno) {
	l := m.rivals()
	if len(l) == 0 {
		return 0, api.ErrNone
	}
	if l[0].single {
		return l[0].number, api.OK
	}
	return m.ready(l[0].number)[0], api.OK
}

func (m model) tick() (int, api.Errno) {
	t, err := m.pick()
	if err != api.OK {
		return 0, err
	}
	x := m.tasks[t]
	x.time += 1048576 / x.weight
	if x.group != 0 {
		m.groups[x.group].time += 1048576 / m.groups[x.group].weight
	}
	return t, api.OK
}

func (m model) at(t int) (int, api.Errno) {
	if m.tasks[t] == nil {
		return 0, api.ErrNone
	}
	return m.tasks[t].time, api.OK
}

func (m model) groupAt(g int) (int, api.Errno) {
	if m.groups[g] == nil {
		return 0, api.ErrNone
	}
	return m.groups[g].time, api.OK
}

// pair is a Fair with its model: each call goes to both, and they must agree.
// Calls are checked at once; what is left behind is compared by same.
type pair struct {
	*testing.T
	f *Fair
	m model
}

func begin(t *testing.T) *pair {
	return &pair{t, New(), newModel()}
}

func (p *pair) err(what string, n int, got, want api.Errno) api.Errno {
	p.Helper()
	if got != want {
		p.Fatalf("%s(%d) is %d, not %d", what, n, got, want)
	}
	return want
}

func (p *pair) number(what string, n, got int, e api.Errno, want int, f api.Errno) int {
	p.Helper()
	if got != want || e != f {
		p.Fatalf("%s(%d) is %d, %d, not %d, %d", what, n, got, e, want, f)
	}
	return want
}

func (p *pair) group(g, weight int) api.Errno {
	p.Helper()
	return p.err("Group", g, p.f.Group(g, weight), p.m.group(g, weight))
}

func (p *pair) add(t, weight, g int) api.Errno {
	p.Helper()
	return p.err("Add", t, p.f.Add(t, weight, g), p.m.add(t, weight, g))
}

func (p *pair) leave(t int) api.Errno {
	p.Helper()
	return p.err("Leave", t, p.f.Leave(t), p.m.leave(t))
}

func (p *pair) block(t int) api.Errno {
	p.Helper()
	return p.err("Block", t, p.f.Block(t), p.m.block(t))
}

func (p *pair) wake(t int) api.Errno {
	p.Helper()
	return p.err("Wake", t, p.f.Wake(t), p.m.wake(t))
}

func (p *pair) tick() int {
	p.Helper()
	got, e := p.f.Tick()
	want, f := p.m.tick()
	return p.number("Tick", 0, got, e, want, f)
}

// same compares all that can be asked, without a change.
func (p *pair) same() {
	p.Helper()
	got, e := p.f.Pick()
	want, f := p.m.pick()
	p.number("Pick", 0, got, e, want, f)
	for n := -1; n <= 18; n++ {
		got, e = p.f.At(n)
		want, f = p.m.at(n)
		p.number("At", n, got, e, want, f)
		got, e = p.f.GroupAt(n)
		want, f = p.m.groupAt(n)
		p.number("GroupAt", n, got, e, want, f)
	}
}

// oneTick is what a tick costs of weight 1.
const oneTick = 1048576

// ticks checks who goes in a row of ticks.
func (p *pair) ticks(row ...int) {
	p.Helper()
	for i, want := range row {
		if got := p.tick(); got != want {
			p.Fatalf("the tick %d of %d is charged to %d", i, row, got)
		}
		p.same()
	}
}

// times checks the virtual times of some tasks, counted in ticks of weight 1.
func (p *pair) times(want map[int]int) {
	p.Helper()
	p.same()
	for t, n := range want {
		if got, err := p.f.At(t); got != n*oneTick || err != api.OK {
			p.Fatalf("At(%d) is %d, %d, not %d", t, got, err, n*oneTick)
		}
	}
}

// groupTimes checks those of some groups.
func (p *pair) groupTimes(want map[int]int) {
	p.Helper()
	p.same()
	for g, n := range want {
		if got, err := p.f.GroupAt(g); got != n*oneTick || err != api.OK {
			p.Fatalf("GroupAt(%d) is %d, %d, not %d", g, got, err, n*oneTick)
		}
	}
}

// Numbers that are no task's and no group's: outside the bounds, and such that
// come into the bounds when they are cut to fewer bits, or negated.
var badNumbers = []int{math.MinInt, math.MinInt + 1, -1 << 32, -16, -1, 17, 18, 257, 1<<32 + 1, 1<<60 + 2, math.MaxInt}

var badWeights = []int{math.MinInt, math.MinInt + 1, -1 << 32, -100, -1, 0, 101, 257, 1<<32 + 1, 1<<60 + 50, math.MaxInt}

// empty checks a Fair that has no task and no group.
func (p *pair) empty() {
	p.Helper()
	p.same()
	for _, n := range append([]int{0, 1, 8, 9, 16}, badNumbers...) {
		for what, err := range map[string]api.Errno{"Leave": p.f.Leave(n), "Block": p.f.Block(n), "Wake": p.f.Wake(n)} {
			p.err(what, n, err, api.ErrNone)
		}
		at, err := p.f.At(n)
		p.number("At", n, at, err, 0, api.ErrNone)
		at, err = p.f.GroupAt(n)
		p.number("GroupAt", n, at, err, 0, api.ErrNone)
	}
	p.idle(0)
}

// idle checks a Fair whose tasks, which have the numbers up to one, are all blocked.
func (p *pair) idle(tasks int) {
	p.Helper()
	for n := 1; n <= tasks; n++ {
		p.err("Block", n, p.f.Block(n), api.ErrState)
	}
	t, err := p.f.Pick()
	p.number("Pick", 0, t, err, 0, api.ErrNone)
	t, err = p.f.Tick()
	p.number("Tick", 0, t, err, 0, api.ErrNone)
	p.same()
}
