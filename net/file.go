package net

import (
	"bytes"
	"slices"

	"cabinetry/api"
	"cabinetry/bag"
	"cabinetry/btree"
	"cabinetry/drive"
	"cabinetry/table"
)

// The files of a net: what New was given, the log of commits, and the index of each tag.
const (
	baseFile = iota
	logFile
	firstIndex
)

// The kinds of records in files.
const (
	baseRecord   = 'B'
	commitRecord = 'C'
)

// change is a write that a commit does: the log, or a file that gets other bytes.
type change struct {
	file  int
	bytes []byte
}

// appendText appends a text and its length.
func appendText(out []byte, s string) []byte {
	return append(drive.AppendLow(out, len(s), 2), s...)
}

// base is the base file of a table and its tags.
func base(t api.Table, l []api.Tag) []byte {
	out := []byte{byte(len(l))}
	for _, g := range l {
		out = appendText(out, g.Name)
		out = appendText(out, g.Key)
		out = appendText(out, g.For)
		down := 0
		if g.Down {
			down = 1
		}
		out = append(out, byte(g.Uniq), byte(down), byte(g.Coll))
	}
	b, _ := table.Bytes(t)
	return drive.Seal(baseRecord, append(out, b...))
}

// reader takes bytes; it has failed if there were too few.
type reader struct {
	b      []byte
	failed bool
}

func (r *reader) take(n int) []byte {
	if n > len(r.b) {
		r.failed = true
		return make([]byte, n)
	}
	out := r.b[:n]
	r.b = r.b[n:]
	return out
}

func (r *reader) text() string {
	n := drive.Low(r.take(2))
	return string(r.take(n))
}

// readBase returns the table and the tags of a base file.
func readBase(b []byte) (api.Table, []api.Tag, bool) {
	kind, body, size, ok := drive.Unseal(b)
	if !ok || kind != baseRecord || size != len(b) {
		return api.Table{}, nil, false
	}
	r := reader{b: body}
	var l []api.Tag
	for n := int(r.take(1)[0]); n > 0 && !r.failed; n-- {
		g := api.Tag{Name: r.text()}
		g.Key = r.text()
		g.For = r.text()
		rest := r.take(3)
		g.Uniq, g.Down, g.Coll = int(rest[0]), rest[1] == 1, int(rest[2])
		l = append(l, g)
	}
	t, e := table.Read(r.b)
	return t, l, !r.failed && e == api.OK
}

// replay returns a table with the commits of a log, and how many bytes of the log count.
func replay(t api.Table, b []byte) (api.Table, int, bool) {
	at := 0
	for {
		kind, body, size, ok := drive.Unseal(b[at:])
		if !ok || size > 0 && kind != commitRecord {
			return t, 0, false
		}
		if size == 0 {
			return t, at, true
		}
		if t, ok = drive.Patch(t, body); !ok {
			return t, 0, false
		}
		at += size
	}
}

// restore returns the bag that files have, how many bytes of the log count, and the tags whose indexes had to be made anew.
func restore(files [][]byte) (*bag.Bag, int, []int, bool) {
	if len(files) < firstIndex {
		return nil, 0, nil, false
	}
	t, tags, ok := readBase(files[baseFile])
	if !ok || len(files) != firstIndex+len(tags) {
		return nil, 0, nil, false
	}
	t, valid, ok := replay(t, files[logFile])
	if !ok {
		return nil, 0, nil, false
	}
	var indexes []api.Index
	for _, b := range files[firstIndex:] {
		x, _ := btree.Read(b) // a torn one is none, and is made anew
		indexes = append(indexes, x)
	}
	b, anew, e := bag.Repair(t, tags, indexes)
	if e != api.OK || len(b.Tags()) != len(tags) {
		return nil, 0, nil, false
	}
	return b, valid, anew, true
}

// indexBytes are the bytes of the indexes of a bag.
func indexBytes(b *bag.Bag) [][]byte {
	var out [][]byte
	for _, x := range b.Indexes() {
		one, _ := btree.Bytes(x)
		out = append(out, one)
	}
	return out
}

// commit writes the records in which a bag differs, and then the indexes that differ. A goroutine writes what comes through a channel.
func (n *Net) commit(next *bag.Bag, changed []int) {
	changes := make(chan change)
	written := make(chan bool)
	go func() {
		for c := range changes {
			n.write(c)
		}
		close(written)
	}()
	changes <- change{logFile, drive.Seal(commitRecord, drive.Difference(next.Table(), changed))}
	for i, b := range indexBytes(next) {
		changes <- change{firstIndex + i, b}
	}
	close(changes)
	<-written
}

// write puts a record at the end of what counts of the log, or other bytes into a file.
func (n *Net) write(c change) {
	if c.file == logFile {
		if len(n.files.Now(logFile)) > n.valid {
			n.files.Cut(logFile, n.valid)
		}
		n.files.Append(logFile, c.bytes)
		n.valid += len(c.bytes)
		return
	}
	if bytes.Equal(n.files.Now(c.file), c.bytes) {
		return
	}
	n.files.Cut(c.file, 0)
	n.files.Append(c.file, c.bytes)
}

func copiedFiles(files [][]byte) [][]byte {
	var out [][]byte
	for _, b := range files {
		out = append(out, slices.Clone(b))
	}
	return out
}
