package net

import (
	"maps"
	"slices"

	"cabinetry/api"
	"cabinetry/table"
)

// wish is a lock for which a station waits.
type wish struct {
	waits bool
	k     int
	alone bool
}

// station is a station with its transaction.
type station struct {
	on, busy bool         // busy: it has a transaction
	locks    map[int]bool // of records; true: alone
	register int
	changed  map[int]api.Record
	added    []api.Record // the first one is the record -1
	wish     wish
}

// begin makes a station have a new transaction.
func (s *station) begin() {
	s.busy = true
	s.locks = map[int]bool{}
	s.register = 0
	s.changed = map[int]api.Record{}
	s.added = nil
}

// end ends the transaction and its locks.
func (s *station) end() {
	*s = station{on: s.on}
}

// blockers returns the other stations that keep one from a lock.
func (n *Net) blockers(u, k int, alone bool) []int {
	var out []int
	for v := range n.stations {
		hasAlone, has := n.stations[v].locks[k]
		if v != u && has && (alone || hasAlone) {
			out = append(out, v)
		}
	}
	return out
}

// waits returns for whom each station waits.
func (n *Net) waits() [api.MaxUsers][]int {
	var out [api.MaxUsers][]int
	for u := range n.stations {
		if w := n.stations[u].wish; w.waits {
			out[u] = n.blockers(u, w.k, w.alone)
		}
	}
	return out
}

// record returns a record as a station's transaction sees it.
func (n *Net) record(u, k int) (api.Record, bool) {
	s := &n.stations[u]
	if k < 0 && k >= -len(s.added) {
		return s.added[-k-1], true
	}
	if r, ok := s.changed[k]; ok {
		return r, true
	}
	r, e := n.bag.Record(k)
	return r, e == api.OK
}

// put changes a record in a station's transaction.
func (n *Net) put(u, k int, r api.Record) {
	s := &n.stations[u]
	if k < 0 {
		s.added[-k-1] = r
	} else {
		s.changed[k] = r
	}
}

// mayWrite tells whether a station has the lock of a record alone, or it is its own.
func (s *station) mayWrite(k int) bool {
	return k < 0 || s.locks[k]
}

// mayRead tells whether a station has a lock of a record, or it is its own.
func (s *station) mayRead(k int) bool {
	_, has := s.locks[k]
	return k < 0 || has
}

// numberField returns the place of a Num field: ErrNone, ErrType.
func (n *Net) numberField(field string) (int, api.Errno) {
	i, ok := table.Index(n.fields, field)
	if !ok {
		return 0, api.ErrNone
	}
	if n.fields[i].Kind != api.Num {
		return 0, api.ErrType
	}
	return i, api.OK
}

// count is how many records there are, with those that are appended in transactions.
func (n *Net) count() int {
	total := n.bag.Len()
	for u := range n.stations {
		total += len(n.stations[u].added)
	}
	return total
}

// changes returns the changed records of a station in ascending order.
func (s *station) changes() ([]int, []api.Record) {
	keys := slices.Sorted(maps.Keys(s.changed))
	var recs []api.Record
	for _, k := range keys {
		recs = append(recs, s.changed[k])
	}
	return keys, recs
}

// inRing tells whether a station waits, over others, for itself.
func inRing(waits [api.MaxUsers][]int, u int) bool {
	var reached [api.MaxUsers]bool
	var reach func(v int)
	reach = func(v int) {
		for _, w := range waits[v] {
			if !reached[w] {
				reached[w] = true
				reach(w)
			}
		}
	}
	reach(u)
	return reached[u]
}
