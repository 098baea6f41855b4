package screen

import (
	"slices"

	"cabinetry/api"
	"cabinetry/expr"
)

const (
	mostKeys = 1000
	noGet    = -1
)

// reader goes through gets.
type reader struct {
	editor
	gets    []api.Get // with their values as they were put
	now     int       // the get at which it is, or noGet
	entered []int
	escaped bool
}

// values are the values of all gets as they are now.
func (r *reader) values() []api.Value {
	var out []api.Value
	for i, g := range r.gets {
		if i == r.now {
			out = append(out, valueOf(g.Picture, string(r.text), g.Value.Kind))
		} else {
			out = append(out, g.Value)
		}
	}
	return out
}

// holds tells whether a condition is true.
func (r *reader) holds(cond string) bool {
	if cond == "" {
		return true
	}
	e := api.Env{Exact: true, Vals: r.values()}
	for _, g := range r.gets {
		e.Names = append(e.Names, g.Name)
	}
	v, why, err := expr.Source(cond, e)
	return why == 0 && err == api.OK && v == api.Value{Kind: api.Truth, N: 1}
}

// next is the next get from one on, or back, whose When is true, or noGet.
func (r *reader) next(from, step int) int {
	for i := from; i >= 0 && i < len(r.gets); i += step {
		if r.holds(r.gets[i].When) {
			return i
		}
	}
	return noGet
}

// enter goes to a get, or ends the read.
func (r *reader) enter(i int) {
	r.now = i
	if i != noGet {
		r.entered = append(r.entered, i)
		r.begin(r.gets[i])
	}
}

// leave leaves the get, if its Valid is true, to the next one or the one before. Without such a one the read ends if it may.
func (r *reader) leave(step int, mayEnd bool) {
	if !r.holds(r.gets[r.now].Valid) {
		return
	}
	to := r.next(r.now+step, step)
	if to == noGet && !mayEnd {
		return
	}
	r.gets[r.now].Value = r.values()[r.now]
	r.enter(to)
}

// press does what a key does.
func (r *reader) press(key int) {
	if r.now == noGet {
		return
	}
	switch key {
	case keyEnter:
		r.leave(1, true)
	case keyDown:
		r.leave(1, false)
	case keyUp:
		r.leave(-1, false)
	case keyEscape:
		r.now, r.escaped = noGet, true
	default:
		r.key(key)
	}
}

// Read returns the values of gets behind keys, at which get the read is, which ones were entered, and whether it was ended by Escape.
func Read(l []api.Get, keys []int) ([]api.Value, int, []int, bool, api.Errno) {
	if e := Validate(l); e != api.OK {
		return nil, 0, nil, false, e
	}
	if len(keys) > mostKeys {
		return nil, 0, nil, false, api.ErrLarge
	}
	r := &reader{gets: slices.Clone(l), now: noGet}
	r.enter(r.next(0, 1))
	goOn := r.press
	for _, key := range keys {
		goOn(key)
	}
	return r.values(), r.now, r.entered, r.escaped, api.OK
}
