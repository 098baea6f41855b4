package link

import (
	"slices"

	"cabinetry/api"
)

// entered is what is in the room when a procedure is entered or returned to, and how many overlays are loaded for it; 0: nothing is in the room.
func entered(room, overlay int) (int, int) {
	if overlay == 0 || overlay == room {
		return room, 0
	}
	return overlay, 1
}

// Loads returns how often an overlay is loaded in a walk.
func Loads(l []api.Module, from string, walk []string) (int, api.Errno) {
	procs, e := linkedFrom(l, from)
	if e != api.OK {
		return 0, e
	}
	room, loads := entered(0, procs[from].overlay)
	stack := []string{from}
	for _, name := range walk {
		last := len(stack) - 1
		switch {
		case name == "" && last == 0:
			return 0, api.ErrRule
		case name == "":
			stack = stack[:last]
		case slices.Contains(procs[stack[last]].calls, name):
			stack = append(stack, name)
		default:
			return 0, api.ErrRule
		}
		n := 0
		room, n = entered(room, procs[stack[len(stack)-1]].overlay)
		loads += n
	}
	if len(walk) > mostWalk {
		return 0, api.ErrLarge
	}
	return loads, api.OK
}

const rooms = mostOverlay + 1

// ends are the greatest numbers of loads of walks that end with each room; -1: there is no such walk.
type ends [rooms]int

func noEnds() ends {
	var e ends
	for i := range e {
		e[i] = -1
	}
	return e
}

// place is a procedure with a room, and a number of steps.
type place struct {
	name        string
	room, steps int
}

// walker goes through walks; what it has found from a place it keeps.
type walker struct {
	procs map[string]proc
	round map[place]ends // walks that come back
	once  map[place]ends // likewise, with one call from the procedure itself
	open  map[place]int
	ahead map[place]int
}

// Worst returns the greatest number of loads of a walk of at most n calls and returns.
func Worst(l []api.Module, from string, n int) (int, api.Errno) {
	procs, e := linkedFrom(l, from)
	if e != api.OK {
		return 0, e
	}
	if n < 0 || n > mostSteps {
		return 0, api.ErrArg
	}
	w := &walker{procs, map[place]ends{}, map[place]ends{}, map[place]int{}, map[place]int{}}
	room, loads := entered(0, procs[from].overlay)
	return loads + w.worst(place{from, room, n}), api.OK
}

// worst goes through all walks from a place, which come back as far as they like.
func (w *walker) worst(from place) int {
	var open, ahead func(p place) int
	open = func(p place) int {
		if n, ok := w.open[p]; ok {
			return n
		}
		best := 0
		for steps := 0; steps <= p.steps; steps += 2 {
			for room, loads := range w.back(place{p.name, p.room, steps}) {
				if loads >= 0 {
					best = max(best, loads+ahead(place{p.name, room, p.steps - steps}))
				}
			}
		}
		w.open[p] = best
		return best
	}
	// A call that is not returned from, if there is a step left for it.
	ahead = func(p place) int {
		if n, ok := w.ahead[p]; ok || p.steps == 0 {
			return n
		}
		best := 0
		for _, name := range w.procs[p.name].calls {
			room, loads := entered(p.room, w.procs[name].overlay)
			best = max(best, loads+open(place{name, room, p.steps - 1}))
		}
		w.ahead[p] = best
		return best
	}
	return open(from)
}

// back are the walks of just so many steps that come back to the procedure.
func (w *walker) back(p place) ends {
	if e, ok := w.round[p]; ok {
		return e
	}
	out := noEnds()
	if p.steps == 0 {
		out[p.room] = 0
	}
	for steps := 2; steps <= p.steps; steps += 2 {
		for room, first := range w.single(place{p.name, p.room, steps}) {
			if first < 0 {
				continue
			}
			for end, rest := range w.back(place{p.name, room, p.steps - steps}) {
				if rest >= 0 {
					out[end] = max(out[end], first+rest)
				}
			}
		}
	}
	w.round[p] = out
	return out
}

// single are those of them that have one call from the procedure itself.
func (w *walker) single(p place) ends {
	if e, ok := w.once[p]; ok {
		return e
	}
	out := noEnds()
	for _, name := range w.procs[p.name].calls {
		room, loads := entered(p.room, w.procs[name].overlay)
		for inner, more := range w.back(place{name, room, p.steps - 2}) {
			if more < 0 {
				continue
			}
			end, last := entered(inner, w.procs[p.name].overlay)
			out[end] = max(out[end], loads+more+last)
		}
	}
	w.once[p] = out
	return out
}
