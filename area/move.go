package area

import (
	"slices"
	"strings"

	"cabinetry/api"
	"cabinetry/key"
)

// The moves of a work area.
const (
	moveTo = iota
	moveTop
	moveBottom
	moveSkip
)

// move does one of the moves and moves the children.
func (s *state) move(a *area, kind, n int) {
	moves := [...]func(s *state, a *area, n int){
		moveTo: (*state).goTo, moveTop: (*state).top, moveBottom: (*state).bottom, moveSkip: (*state).skip,
	}
	moves[kind](s, a, n)
	s.moveChildren(a)
}

func (s *state) goTo(a *area, k int) {
	a.at, a.bof = k, false
}

// nextInRow returns the first record of the row in a part of the sequence.
func (s *state) nextInRow(a *area, recs []int) (int, bool) {
	for _, k := range recs {
		if s.inRow(a, k) {
			return k, true
		}
	}
	return atEnd, false
}

func (s *state) top(a *area, _ int) {
	_, recs := s.sequence(a)
	k, ok := s.nextInRow(a, recs)
	a.at, a.bof = k, !ok
}

func (s *state) bottom(a *area, _ int) {
	_, recs := s.sequence(a)
	recs = slices.Clone(recs)
	slices.Reverse(recs)
	k, ok := s.nextInRow(a, recs)
	a.at, a.bof = k, !ok
}

func (s *state) skip(a *area, n int) {
	_, recs := s.sequence(a)
	before, upTo := s.place(a, a.at)
	if n > 0 {
		k, ok := s.nthInRow(a, recs[upTo:], n)
		if !ok {
			k = atEnd
		}
		s.goTo(a, k)
		return
	}
	recs = slices.Clone(recs[:before])
	slices.Reverse(recs)
	// No row has as many records as the least number has.
	if k, ok := s.nthInRow(a, recs, -max(n, -api.MaxRecs-1)); ok {
		s.goTo(a, k)
		return
	}
	s.top(a, 0)
	a.bof = true
}

// nthInRow returns the n-th record of the row in a part of the sequence.
func (s *state) nthInRow(a *area, recs []int, n int) (int, bool) {
	for i, k := range recs {
		if !s.inRow(a, k) {
			continue
		}
		n--
		if n == 0 {
			return recs[i], true
		}
	}
	return atEnd, false
}

// finder tells which keys of a tag are meant by a value.
type finder struct {
	key, prefix string
	near        bool
}

func (s *state) finderOf(a *area, v api.Value) finder {
	b := s.holderOf(a)
	var g api.Tag
	for _, tag := range b.bag.Tags() {
		if tag.Name == a.order {
			g = tag
		}
	}
	f := finder{near: !s.exact && v.Kind == api.Text && !g.Down}
	f.key, _ = key.Encode(v, b.page, g.Coll, g.Down)
	f.prefix, _ = key.Prefix(v.S[:min(len(v.S), 48)], b.page, g.Coll, g.Down)
	return f
}

func (f finder) fits(k string) bool {
	return k == f.key || f.near && strings.HasPrefix(k, f.prefix)
}

// found returns the records of the row that a seek finds, at most so many of them.
func (s *state) found(a *area, v api.Value, most int) []int {
	f := s.finderOf(a, v)
	keys, recs := s.sequence(a)
	var out []int
	for i, k := range recs {
		if f.fits(keys[i]) && s.inRow(a, k) {
			out = append(out, k)
			if len(out) == most {
				break
			}
		}
	}
	return out
}

// seek goes to the first record of the row that is found.
func (s *state) seek(a *area, v api.Value, soft bool) bool {
	if l := s.found(a, v, 1); len(l) > 0 {
		s.goTo(a, l[0])
		return true
	}
	s.goTo(a, atEnd)
	if !soft {
		return false
	}
	f := s.finderOf(a, v)
	keys, recs := s.sequence(a)
	for i, k := range recs {
		if keys[i] > f.key && s.inRow(a, k) {
			s.goTo(a, k)
			break
		}
	}
	return false
}

// candidates returns where a child may stand for the value of a relation.
func (s *state) candidates(child *area, v api.Value, most int) []int {
	var l []int
	switch {
	case v.Kind == api.Nil:
	case child.order != "":
		l = s.found(child, v, most)
	case v.Kind == api.Num && v.N >= 1 && v.N <= s.count(child):
		l = []int{v.N}
	}
	if len(l) == 0 {
		return []int{atEnd}
	}
	return l
}

// valueOf returns the value of a relation; Nil if it dies.
func (s *state) valueOf(parent *area, r relation) api.Value {
	v, why := s.eval(parent, r.x)
	if why != 0 {
		return api.Value{}
	}
	return v
}

// moveChildren moves the children of a work area, and theirs.
func (s *state) moveChildren(a *area) {
	for _, r := range a.relations {
		child := s.find(r.child)
		s.goTo(child, s.candidates(child, s.valueOf(a, r), 1)[0])
		s.moveChildren(child)
	}
}

// leadsTo tells whether relations lead from one work area to another one.
func (s *state) leadsTo(from *area, alias string) bool {
	if from.alias == alias {
		return true
	}
	return slices.ContainsFunc(from.relations, func(r relation) bool { return s.leadsTo(s.find(r.child), alias) })
}

const mostPairs = 2000

// pairs returns the combinations of the row's records with those of the children; false: they are too many. It moves work areas.
func (s *state) pairs(a *area) ([][]int, bool) {
	var out [][]int
	for _, k := range s.row(a) {
		s.goTo(a, k)
		combined := [][]int{{k}}
		for _, r := range a.relations {
			child := s.find(r.child)
			l := s.candidates(child, s.valueOf(a, r), -1)
			s.goTo(child, l[0])
			s.moveChildren(child)
			var next [][]int
			for _, before := range combined {
				for _, k := range l {
					next = append(next, append(slices.Clone(before), k))
				}
			}
			combined = next
			if len(out)+len(combined) > mostPairs {
				return nil, false
			}
		}
		out = append(out, combined...)
	}
	return out, true
}
