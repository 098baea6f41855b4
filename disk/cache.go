package disk

import (
	"maps"
	"slices"

	"cabinetry/api"
)

const pageBytes = 32

// The states of bytes in a cache.
const (
	unknown = iota
	clean
	dirty
)

// place is a page of a file.
type place struct {
	file string
	page int
}

// page is a page as a station knows it. What is unknown is 0.
type page struct {
	bytes  [pageBytes]byte
	states [pageBytes]byte
}

// cache are the pages that a station has.
type cache map[place]page

// lock is a lock of a station.
type lock struct {
	station int
	file    string
	from, n int
}

func (l lock) overlaps(file string, from, n int) bool {
	return l.file == file && l.from < from+n && from < l.from+l.n
}

// state is what a system has.
type state struct {
	files  map[string][]byte
	caches [api.MaxUsers]cache
	locks  []lock
}

func newState() state {
	s := state{files: map[string][]byte{}}
	for u := range s.caches {
		s.caches[u] = cache{}
	}
	return s
}

func (s *state) copied() state {
	out := state{files: map[string][]byte{}, locks: slices.Clone(s.locks)}
	for name, b := range s.files {
		out.files[name] = slices.Clone(b)
	}
	for u, c := range s.caches {
		out.caches[u] = maps.Clone(c)
	}
	return out
}

// span is where the bytes of a page begin and end in its file.
func (s *state) span(at place) (int, int) {
	begin := at.page * pageBytes
	return begin, min(begin+pageBytes, len(s.files[at.file]))
}

// fetched returns a page as it is on the disk.
func (s *state) fetched(at place) page {
	var p page
	begin, end := s.span(at)
	for i := range end - begin {
		p.bytes[i], p.states[i] = s.files[at.file][begin+i], clean
	}
	return p
}

// touch makes a station have a page, and know one of its bytes.
func (s *state) touch(u int, at place, i int) page {
	p, ok := s.caches[u][at]
	if !ok {
		p = s.fetched(at)
	}
	if p.states[i] == unknown { // the file has grown since the page was fetched
		p.bytes[i], p.states[i] = s.files[at.file][at.page*pageBytes+i], clean
	}
	s.caches[u][at] = p
	return p
}

// refresh fetches the clean bytes of a page anew.
func (s *state) refresh(u int, at place) {
	p := s.caches[u][at]
	now := s.fetched(at)
	for i, state := range p.states {
		if state == clean {
			p.bytes[i] = now.bytes[i]
		}
	}
	s.caches[u][at] = p
}

// write writes the dirty bytes of a page to the disk and returns how many.
func (s *state) write(u int, at place) int {
	p := s.caches[u][at]
	n := 0
	for i, state := range p.states {
		if state == dirty {
			s.files[at.file][at.page*pageBytes+i] = p.bytes[i]
			p.states[i] = clean
			n++
		}
	}
	s.caches[u][at] = p
	return n
}

func (p page) isClean() bool {
	return !slices.Contains(p.states[:], dirty)
}

// pagesOf returns the pages of a file that a station has.
func (s *state) pagesOf(u int, file string) []place {
	var out []place
	for at := range s.caches[u] {
		if at.file == file {
			out = append(out, at)
		}
	}
	return out
}

// pagesIn returns those that have one of some bytes.
func (s *state) pagesIn(u int, file string, from, n int) []place {
	return slices.DeleteFunc(s.pagesOf(u, file), func(at place) bool {
		begin, end := s.span(at)
		return begin >= from+n || from >= end
	})
}

// cut takes the bytes from the length of a file on out of a cache.
func (s *state) cut(u int, file string) {
	for _, at := range s.pagesOf(u, file) {
		begin, end := s.span(at)
		if end <= begin {
			delete(s.caches[u], at)
			continue
		}
		p := s.caches[u][at]
		clear(p.bytes[end-begin:])
		clear(p.states[end-begin:])
		s.caches[u][at] = p
	}
}
