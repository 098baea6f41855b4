package buf

import (
	"maps"
	"slices"

	"cabinetry/api"
	"cabinetry/table"
)

// The modes of users.
const (
	direct = iota
	rowLocked
	rowFree
	tableLocked
	tableFree
	modes
)

// change is a changed record as it was and as it is to be.
type change struct {
	old, new api.Record
}

// user is a user with its buffer.
type user struct {
	mode  int
	at    int // 0: at none
	buf   map[int]change
	added []api.Record // the first one is the record -1
}

func (u *user) isEmpty() bool {
	return len(u.buf) == 0 && len(u.added) == 0
}

func (u *user) byRows() bool {
	return u.mode == rowLocked || u.mode == rowFree
}

func (u *user) locks() bool {
	return u.mode == rowLocked || u.mode == tableLocked
}

// own returns one of the user's own appended records.
func (u *user) own(k int) (api.Record, bool) {
	if k >= 0 || k < -len(u.added) {
		return api.Record{}, false
	}
	return u.added[-k-1], true
}

// state is what a desk has. Records are never changed in place.
type state struct {
	table  api.Table
	blank  api.Record
	users  [api.MaxUsers]user
	locked map[int]int // by which user
}

func (s *state) copied() state {
	out := *s
	out.table.Recs = slices.Clone(s.table.Recs)
	out.locked = maps.Clone(s.locked)
	for i := range out.users {
		out.users[i].buf = maps.Clone(s.users[i].buf)
		out.users[i].added = slices.Clone(s.users[i].added)
	}
	return out
}

func (s *state) has(k int) bool {
	return k >= 1 && k <= len(s.table.Recs)
}

// seen returns a record as a user sees it.
func (s *state) seen(u, k int) (api.Record, bool) {
	if c, ok := s.users[u].buf[k]; ok {
		return c.new, true
	}
	if s.has(k) {
		return s.table.Recs[k-1], true
	}
	return s.users[u].own(k)
}

// isBusy tells whether another user has the lock of a record.
func (s *state) isBusy(u, k int) bool {
	by, ok := s.locked[k]
	return ok && by != u
}

// write changes the record at which a user is: ErrBusy.
func (s *state) write(u int, edit func(r *api.Record)) api.Errno {
	who := &s.users[u]
	r, _ := s.seen(u, who.at)
	r.V = slices.Clone(r.V)
	edit(&r)
	if who.at < 0 {
		who.added[-who.at-1] = r
		return api.OK
	}
	if (who.mode == direct || who.locks()) && s.isBusy(u, who.at) {
		return api.ErrBusy
	}
	if who.mode == direct {
		s.table.Recs[who.at-1] = r
		return api.OK
	}
	if who.locks() {
		s.locked[who.at] = u
	}
	c, ok := who.buf[who.at]
	if !ok {
		c.old = s.table.Recs[who.at-1]
	}
	c.new = r
	who.buf[who.at] = c
	return api.OK
}

// clashes tells whether somebody else has changed what a change changes.
func (c change) clashes(now api.Record) bool {
	if c.new.Gone != c.old.Gone && now.Gone != c.old.Gone && now.Gone != c.new.Gone {
		return true
	}
	for i, v := range c.new.V {
		if v != c.old.V[i] && now.V[i] != c.old.V[i] && now.V[i] != v {
			return true
		}
	}
	return false
}

// onto returns a record with what a change changes.
func (c change) onto(now api.Record) api.Record {
	if c.new.Gone != c.old.Gone {
		now.Gone = c.new.Gone
	}
	now.V = slices.Clone(now.V)
	for i, v := range c.new.V {
		if v != c.old.V[i] {
			now.V[i] = v
		}
	}
	return now
}

// changed returns the records of the table in a user's buffer.
func (s *state) changed(u int) []int {
	return slices.Sorted(maps.Keys(s.users[u].buf))
}

// clashing returns those that clash.
func (s *state) clashing(u int) []int {
	var out []int
	for _, k := range s.changed(u) {
		if s.users[u].buf[k].clashes(s.table.Recs[k-1]) {
			out = append(out, k)
		}
	}
	return out
}

// refuses returns why a buffer can't be stored.
func (s *state) refuses(u int, force bool) api.Errno {
	if !force && len(s.clashing(u)) > 0 {
		return api.ErrClash
	}
	if slices.ContainsFunc(s.changed(u), func(k int) bool { return s.isBusy(u, k) }) {
		return api.ErrBusy
	}
	return api.OK
}

// store puts a buffer into the table and returns the numbers that the appended records have.
func (s *state) store(u int) []int {
	who := &s.users[u]
	for _, k := range s.changed(u) {
		s.table.Recs[k-1] = who.buf[k].onto(s.table.Recs[k-1])
	}
	before := len(s.table.Recs)
	var out []int
	for _, r := range who.added {
		s.table.Recs = append(s.table.Recs, r)
		out = append(out, len(s.table.Recs))
	}
	if who.at < 0 {
		who.at = before - who.at
	}
	s.empty(u)
	return out
}

// empty throws a buffer and the locks away.
func (s *state) empty(u int) {
	who := &s.users[u]
	for _, k := range s.changed(u) {
		delete(who.buf, k)
		if s.locked[k] == u {
			delete(s.locked, k)
		}
	}
	who.added = nil
}

// revert throws a buffer away and returns how many records were in it.
func (s *state) revert(u int) int {
	who := &s.users[u]
	n := len(who.buf) + len(who.added)
	s.empty(u)
	if who.at < 0 {
		who.at = 0
	}
	return n
}

// count is how many records there are, with those that are appended in buffers.
func (s *state) count() int {
	n := len(s.table.Recs)
	for i := range s.users {
		n += len(s.users[i].added)
	}
	return n
}

// fieldOf returns the value of a field of a record.
func (s *state) fieldOf(r api.Record, field string) (api.Value, api.Errno) {
	i, ok := table.Index(s.table.Fields, field)
	if !ok {
		return api.Value{}, api.ErrNone
	}
	return r.V[i], api.OK
}
