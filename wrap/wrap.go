// Package wrap: counters of 32 bits that go round, and a ring of records that they number.
package wrap

import (
	"bytes"
	"slices"

	"ringhall/api"
)

// Limits of a ring.
const (
	MaxRing   = 64 // records
	MaxRecord = 32 // bytes of a record
)

// Ring of the last records.
type Ring struct {
	size    int
	next    uint32   // the number of the record that comes next
	records [][]byte // the oldest one first
}

// Far: how far it is from one counter to another one, the nearer way round.
func Far(a, b uint32) int {
	return int(int32(b - a))
}

// Less: does one stand ahead of another one?
func Less(a, b uint32) bool {
	return Far(a, b) > 0
}

// Last: the first of some counters behind which none of them stands.
func Last(l []uint32) (uint32, api.Errno) {
	if len(l) == 0 {
		return 0, api.ErrNone
	}
	// If a counter x is last, all others stand at most 2^31 steps behind it. A
	// walk leaves x aside only from exactly 2^31 steps behind it, where neither
	// of the two is ahead. If it goes on from there, it ends nearer to x, and a
	// second walk reaches x; if not, it ends where none is ahead either.
	x := walk(l, walk(l, l[0]))
	// If no counter is last, the walks end anywhere. A third walk would not
	// show that: it may go all the way round and come back to x.
	for _, y := range l {
		if Less(x, y) {
			return 0, api.ErrForm
		}
	}
	return x, api.OK
}

// walk goes through l from x on, each time to a counter that stands ahead.
func walk(l []uint32, x uint32) uint32 {
	for _, y := range l {
		if Less(x, y) {
			x = y
		}
	}
	return x
}

// New ring.
func New(size int, first uint32) (*Ring, api.Errno) {
	if size < 1 || size > MaxRing {
		return nil, api.ErrArg
	}
	return &Ring{size: size, next: first}, api.OK
}

// Put a record.
func (r *Ring) Put(b []byte) (uint32, api.Errno) {
	if len(b) > MaxRecord {
		return 0, api.ErrLarge
	}
	r.records = append(r.records, bytes.Clone(b))
	// Dropped after the append, so that a Ring that New did not make, which
	// has the size 0, has something to drop.
	if len(r.records) > r.size {
		r.records = slices.Delete(r.records, 0, 1)
	}
	r.next++
	return r.next - 1, api.OK
}

// Span: the number of the first record that is there, and of the next one that comes.
func (r *Ring) Span() (uint32, uint32) {
	return r.next - uint32(len(r.records)), r.next
}

// Get a record.
func (r *Ring) Get(n uint32) ([]byte, api.Errno) {
	i := r.place(n)
	if i >= len(r.records) {
		return nil, api.ErrNone
	}
	return bytes.Clone(r.records[i]), api.OK
}

// From: all records from one number on.
func (r *Ring) From(n uint32) ([][]byte, api.Errno) {
	i := r.place(n)
	if i > len(r.records) {
		return nil, api.ErrNone
	}
	var l [][]byte
	for _, b := range r.records[i:] {
		l = append(l, bytes.Clone(b))
	}
	return l, api.OK
}

// place tells how many steps a number is ahead of the oldest record's. A
// number behind that one comes out far beyond the records, as it goes round.
func (r *Ring) place(n uint32) int {
	oldest, _ := r.Span()
	return int(n - oldest)
}
