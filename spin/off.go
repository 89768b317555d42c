package spin

import (
	"slices"

	"ringhall/api"
)

// MaxDeep: how often interrupts may be off, one within the other.
const MaxDeep = 16

// lines of interrupts that a processor has.
const lines = 32

// Off: interrupts of a processor, that are off as often as one says, and on again.
// Of one that NewOff did not make they are on, too.
type Off struct {
	deep    int   // entries of the stack: as each Save turns interrupts off, only the lowest one can say "on"
	pending []int // lines, in order of arrival
}

// NewOff: they are on.
func NewOff() *Off {
	return &Off{}
}

// Save: they are off, and it is kept whether they were on.
func (o *Off) Save() api.Errno {
	if o.deep == MaxDeep {
		return api.ErrFull
	}
	o.deep++
	return api.OK
}

// Back: they are as they were ahead of the last Save; what came meanwhile.
func (o *Off) Back() ([]int, api.Errno) {
	if o.deep == 0 {
		return nil, api.ErrState
	}
	o.deep--
	if !o.on() {
		return nil, api.OK
	}
	came := o.pending
	o.pending = nil
	return came, api.OK
}

// Come: an interrupt of a line comes; is it taken at once? Else it is kept, each line once.
func (o *Off) Come(line int) (bool, api.Errno) {
	if line < 0 || line >= lines {
		return false, api.ErrArg
	}
	if o.on() {
		return true, api.OK
	}
	if !slices.Contains(o.pending, line) {
		o.pending = append(o.pending, line)
	}
	return false, api.OK
}

// On: are they on, and how deep are they off?
func (o *Off) On() (bool, int) {
	return o.on(), o.deep
}

// on tells whether interrupts are on.
func (o *Off) on() bool {
	return o.deep == 0
}
