package drive

import (
	"slices"

	"cabinetry/api"
	"cabinetry/table"
)

const (
	headBytes = 5 // a kind and a length
	sumBytes  = 4
)

// sum is the sum of bytes by which altered ones are told.
func sum(b []byte) int {
	n := 0
	for _, c := range b {
		n = (n*263 + int(c) + 1) % 1000033
	}
	return n
}

// AppendLow appends a number, the lowest byte first.
func AppendLow(out []byte, n, size int) []byte {
	for i := range size {
		out = append(out, byte(n>>(8*i)))
	}
	return out
}

// Low returns the number that AppendLow appends as these bytes.
func Low(b []byte) int {
	n := 0
	for i, c := range b {
		n += int(c) << (8 * i)
	}
	return n
}

// Seal makes a record of a kind, the length of its body, the body, and a sum of all these.
func Seal(kind byte, body []byte) []byte {
	out := AppendLow([]byte{kind}, len(body), headBytes-1)
	out = append(out, body...)
	return AppendLow(out, sum(out), sumBytes)
}

// Unseal takes the first record of bytes and returns how many bytes it has. 0: it is torn off at its end; false: it is none.
func Unseal(b []byte) (kind byte, body []byte, size int, ok bool) {
	if len(b) < headBytes {
		return 0, nil, 0, true
	}
	size = headBytes + Low(b[1:headBytes]) + sumBytes
	if len(b) < size {
		return 0, nil, 0, true
	}
	if sum(b[:size-sumBytes]) != Low(b[size-sumBytes:size]) {
		return 0, nil, 0, false
	}
	body = make([]byte, size-headBytes-sumBytes)
	copy(body, b[headBytes:])
	return b[0], body, size, true
}

// Difference returns the bytes of some records of a table, with their numbers.
func Difference(t api.Table, changed []int) []byte {
	out := AppendLow(nil, len(changed), 2)
	some := api.Table{Page: t.Page, Fields: t.Fields}
	for _, k := range changed {
		out = AppendLow(out, k, 2)
		some.Recs = append(some.Recs, t.Recs[k-1])
	}
	b, _ := table.Bytes(some)
	return append(out, b...)
}

// Patch returns a table with the records of a difference; false: it is none of this table.
func Patch(t api.Table, difference []byte) (api.Table, bool) {
	if len(difference) < 2 {
		return t, false
	}
	n := Low(difference[:2])
	if len(difference) < 2+2*n {
		return t, false
	}
	some, e := table.Read(difference[2+2*n:])
	if e != api.OK || len(some.Recs) != n || some.Page != t.Page || !slices.Equal(some.Fields, t.Fields) {
		return t, false
	}
	t.Recs = slices.Clone(t.Recs)
	for i, r := range some.Recs {
		k := Low(difference[2+2*i : 4+2*i])
		if k < 1 || k > len(t.Recs)+1 || k > api.MaxRecs {
			return t, false
		}
		if k > len(t.Recs) {
			t.Recs = append(t.Recs, api.Record{})
		}
		t.Recs[k-1] = r
	}
	return t, true
}
