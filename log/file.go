package log

import (
	"slices"

	"cabinetry/api"
	"cabinetry/table"
)

// The files of a store.
const (
	dataFile = iota
	logFile
)

// The kinds of records of the log.
const (
	someRecords = 'D' // the numbers of records, and a table of these
	wholeTable  = 'F' // what was before it, also in the data file, counts no more
)

const (
	headBytes = 5 // a kind and a length
	sumBytes  = 4
)

// files are the bytes of both files. Bytes that are there are never changed in place: what is appended may share them.
type files [2][]byte

// write is a write to a file: bytes that are appended, or a length.
type write struct {
	file   int
	bytes  []byte
	length int
	cuts   bool
}

// done returns the files behind a write, or behind its first k bytes.
func (w write) done(f files, k int) files {
	if w.cuts {
		if k > 0 {
			f[w.file] = slices.Clone(f[w.file][:w.length])
		}
		return f
	}
	f[w.file] = slices.Concat(f[w.file], w.bytes[:min(k, len(w.bytes))])
	return f
}

// sum is the sum of bytes by which torn ones are told.
func sum(b []byte) int {
	n := 0
	for _, c := range b {
		n = (n*263 + int(c) + 1) % 1000033
	}
	return n
}

func appendLow(out []byte, n, size int) []byte {
	for i := range size {
		out = append(out, byte(n>>(8*i)))
	}
	return out
}

func low(b []byte) int {
	n := 0
	for i, c := range b {
		n += int(c) << (8 * i)
	}
	return n
}

// sealed is a record of the log, or the data file: a kind, a length, what it is about, and a sum of all these.
func sealed(kind byte, body []byte) []byte {
	out := appendLow([]byte{kind}, len(body), headBytes-1)
	out = append(out, body...)
	return appendLow(out, sum(out), sumBytes)
}

// unseal takes the first record of bytes. A length of 0: it is torn off at its end; false: it is none.
func unseal(b []byte) (kind byte, body []byte, size int, ok bool) {
	if len(b) < headBytes {
		return 0, nil, 0, true
	}
	size = headBytes + low(b[1:headBytes]) + sumBytes
	if len(b) < size {
		return 0, nil, 0, true
	}
	body = make([]byte, size-headBytes-sumBytes)
	copy(body, b[headBytes:])
	if sum(b[:size-sumBytes]) != low(b[size-sumBytes:size]) {
		return 0, nil, 0, false
	}
	return b[0], body, size, true
}

// snapshot is a whole table.
func snapshot(t api.Table) []byte {
	b, _ := table.Bytes(t)
	return sealed(wholeTable, b)
}

// difference is a record of the log with some records of a table.
func difference(t api.Table, changed []int) []byte {
	body := appendLow(nil, len(changed), 2)
	some := api.Table{Page: t.Page, Fields: t.Fields}
	for _, k := range changed {
		body = appendLow(body, k, 2)
		some.Recs = append(some.Recs, t.Recs[k-1])
	}
	b, _ := table.Bytes(some)
	return sealed(someRecords, append(body, b...))
}

// patched returns a table with the records of a difference; false: it is none of this table.
func patched(t api.Table, body []byte) (api.Table, bool) {
	if len(body) < 2 {
		return t, false
	}
	n := low(body[:2])
	if len(body) < 2+2*n {
		return t, false
	}
	some, e := table.Read(body[2+2*n:])
	if e != api.OK || len(some.Recs) != n || some.Page != t.Page || !slices.Equal(some.Fields, t.Fields) {
		return t, false
	}
	t.Recs = slices.Clone(t.Recs)
	for i, r := range some.Recs {
		k := low(body[2+2*i : 4+2*i])
		if k < 1 || k > len(t.Recs)+1 || k > api.MaxRecs {
			return t, false
		}
		if k > len(t.Recs) {
			t.Recs = append(t.Recs, api.Record{})
		}
		t.Recs[k-1] = r
	}
	return t, true
}

// restore returns the table that two files have, and how many bytes of the log count; what is behind them was torn off by a fall.
func restore(f files) (api.Table, int, bool) {
	t, found := wholeData(f[dataFile])
	b := f[logFile]
	at := 0
	for {
		kind, body, size, ok := unseal(b[at:])
		if !ok {
			return api.Table{}, 0, false
		}
		if size == 0 {
			return t, at, found
		}
		switch {
		case kind == wholeTable:
			var e api.Errno
			t, e = table.Read(body)
			found = e == api.OK
			ok = found
		case kind == someRecords:
			// Where the data file is torn, a whole table must follow.
			if found {
				t, ok = patched(t, body)
			}
		default:
			ok = false
		}
		if !ok {
			return api.Table{}, 0, false
		}
		at += size
	}
}

// wholeData returns the table of the data file; false: it is torn, as it may be while it is written anew.
func wholeData(b []byte) (api.Table, bool) {
	kind, body, size, ok := unseal(b)
	if !ok || kind != wholeTable || size != len(b) {
		return api.Table{}, false
	}
	t, e := table.Read(body)
	return t, e == api.OK
}
