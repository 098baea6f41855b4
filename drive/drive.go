// Package drive keeps files that are changed by writes, and what a fall leaves of them. Packages log and net lay their tables into such files.
package drive

import "slices"

// write is a write to a file: bytes that are appended, or a length.
type write struct {
	file   int
	bytes  []byte
	length int
	cuts   bool
}

// Drive is some files with all writes to them. Bytes that are there are never changed in place: what is appended may share them.
type Drive struct {
	writes []write
	states [][][]byte // the files before the first write, and behind each
}

// New makes a drive of files.
func New(files ...[]byte) *Drive {
	return &Drive{states: [][][]byte{files}}
}

// Count returns how many writes there were.
func (d *Drive) Count() int {
	return len(d.writes)
}

// Now returns the bytes of a file behind the last write, which are not to be changed.
func (d *Drive) Now(file int) []byte {
	return d.states[len(d.writes)][file]
}

// Append appends bytes to a file.
func (d *Drive) Append(file int, b []byte) {
	w := write{file: file, bytes: slices.Clone(b)}
	next := slices.Clone(d.states[len(d.writes)])
	next[file] = append(next[file], w.bytes...)
	d.states = append(d.states, next)
	d.writes = append(d.writes, w)
}

// Cut sets the length of a file.
func (d *Drive) Cut(file, length int) {
	w := write{file: file, length: length, cuts: true}
	d.states = append(d.states, w.done(d.states[len(d.writes)], 1))
	d.writes = append(d.writes, w)
}

// done returns the files behind the first k bytes of a write; a length is set by any.
func (w write) done(files [][]byte, k int) [][]byte {
	out := slices.Clone(files)
	switch {
	case !w.cuts:
		out[w.file] = slices.Concat(out[w.file], w.bytes[:min(k, len(w.bytes))])
	case k > 0:
		out[w.file] = slices.Clone(out[w.file][:w.length])
	}
	return out
}

// At returns the files behind the first n writes and the first k bytes of the next one.
func (d *Drive) At(n, k int) [][]byte {
	files := d.states[n]
	if n < len(d.writes) {
		files = d.writes[n].done(files, k)
	}
	var out [][]byte
	for _, b := range files {
		out = append(out, slices.Clone(b))
	}
	return out
}
