package ssi

import (
	"math"

	"conductor/api"
	"conductor/span"
)

// The kinds of danger that a record may bring t. There is danger where three stand in a row, each of which reads ahead of the next one, and the last one may have committed first: they may be part of a ring.
const (
	byReads  = 1 << iota // it reads ahead of t
	byWrites             // t reads ahead of it
	byBoth   = byReads | byWrites
)

// sides is what is known of those that stand on either side of t.
type sides struct {
	ahead, behind bool   // does one read ahead of t; does t read ahead of one?
	reach         uint64 // the greatest reach of those that read ahead of t
	first         uint64 // the least First of those that t reads ahead of
}

// addAhead adds one that reads ahead of t.
func (s *sides) addAhead(r api.Record) {
	s.reach = max(s.reach, reach(r))
	s.ahead = true
}

// addBehind adds one that t reads ahead of.
func (s *sides) addBehind(r api.Record) {
	if !s.behind || r.First < s.first {
		s.first = r.First
	}
	s.behind = true
}

// danger tells whether t may be the middle one of three.
func (s *sides) danger() bool {
	return s.ahead && s.behind && s.first <= s.reach
}

// reach gives the last time at which who brings r danger may have committed. Who only reads can stand where it began, ahead of all that committed since.
func reach(r api.Record) uint64 {
	if len(r.Writes) == 0 {
		return r.Began
	}
	return r.Last
}

// Judge tells whether t may commit behind all of l, and the least First of those that it reads ahead of.
func Judge(l []api.Record, t api.Record) (uint64, api.Errno) {
	t.Last = math.MaxUint64 // whatever committed so far did so ahead of it
	tell := func(r api.Record) int {
		kind := 0
		if r.Last <= t.Began {
			return kind // t knows all that it wrote
		}
		if span.Meet(r.Reads, t.Writes) {
			kind |= byReads
		}
		if span.Meet(t.Reads, r.Writes) {
			kind |= byWrites
		}
		return kind
	}
	var s sides
	err := api.OK
records:
	for _, r := range l {
		switch tell(r) {
		case byBoth:
			s.addAhead(r)
			fallthrough // it stands on either side
		case byWrites:
			s.addBehind(r)
			if s.danger() || r.Out != 0 && r.Out <= reach(t) { // or r is the middle one
				err = api.ErrDanger
				break records
			}
		case byReads:
			s.addAhead(r)
			if s.danger() {
				err = api.ErrDanger
				break records
			}
		}
	}
	if err != api.OK {
		return 0, err
	}
	return s.first, api.OK
}
