package table

import (
	"bytes"
	"slices"
	"strings"

	"cabinetry/api"
	"cabinetry/val"
)

const (
	headMark  = 0x43
	headEnd   = 0x0D
	fileEnd   = 0x1A
	headBytes = 12
	partBytes = 16 // of a field in the header
	letters   = " LNDCM"
)

// writers tell how a value of each kind is written into width bytes.
func writers() [6]func(v api.Value, width int) string {
	return [6]func(v api.Value, width int) string{
		api.Truth: func(v api.Value, width int) string { return "FT"[v.N : v.N+1] },
		api.Num: func(v api.Value, width int) string {
			s, _ := rightJustified(v.N, width)
			return s
		},
		api.Date: func(v api.Value, width int) string {
			s, _ := val.Stamp(v.N)
			return s
		},
		api.Text: func(v api.Value, width int) string { return v.S + strings.Repeat(" ", width-len(v.S)) },
		api.Memo: func(v api.Value, width int) string {
			if v.N == 0 {
				return strings.Repeat(" ", width)
			}
			s, _ := rightJustified(v.N, width)
			return s
		},
	}
}

// readers tell which value stands in the bytes of a field; what is no such bytes may give any value.
func readers() [6]func(s string) api.Value {
	number := func(s string) api.Value { return api.Value{Kind: api.Num, N: val.Val(s)} }
	return [6]func(s string) api.Value{
		api.Truth: func(s string) api.Value {
			if s == "T" {
				return api.Value{Kind: api.Truth, N: 1}
			}
			return api.Value{Kind: api.Truth}
		},
		api.Num: number,
		api.Date: func(s string) api.Value {
			day, _ := val.Unstamp(s)
			return api.Value{Kind: api.Date, N: day}
		},
		api.Text: func(s string) api.Value { return api.Value{Kind: api.Text, S: strings.TrimRight(s, " ")} },
		api.Memo: number,
	}
}

// Header returns the bytes before the records.
func Header(t api.Table) ([]byte, api.Errno) {
	if e := Validate(t); e != api.OK {
		return nil, e
	}
	return header(t), api.OK
}

func header(t api.Table) []byte {
	out := []byte{headMark, byte(t.Page)}
	out = appendLow(out, len(t.Recs), 4)
	out = appendLow(out, headBytes+partBytes*len(t.Fields)+1, 2)
	out = appendLow(out, length(t.Fields), 2)
	out = append(out, byte(len(t.Fields)), 0)
	for _, f := range t.Fields {
		part := make([]byte, partBytes)
		copy(part, f.Name)
		part[10], part[11] = letters[f.Kind], byte(f.Width)
		if f.Null {
			part[12] = 1
		}
		out = append(out, part...)
	}
	return append(out, headEnd)
}

// appendLow appends a number, the lowest byte first.
func appendLow(out []byte, n, size int) []byte {
	for range size {
		out = append(out, byte(n))
		n >>= 8
	}
	return out
}

func low(b []byte) int {
	n := 0
	for i, c := range b {
		n += int(c) << (8 * i)
	}
	return n
}

// Row returns the bytes of the record k.
func Row(t api.Table, k int) ([]byte, api.Errno) {
	if e := Validate(t); e != api.OK {
		return nil, e
	}
	if k < 1 || k > len(t.Recs) {
		return nil, api.ErrNone
	}
	return row(t.Fields, t.Recs[k-1]), api.OK
}

// cut returns the bytes of a record that belong to a field, and no room behind them.
func cut(b []byte, at, width int) []byte {
	return b[at : at+width : at+width]
}

func row(l []api.Field, r api.Record) []byte {
	out := bytes.Repeat([]byte(" "), length(l))
	if r.Gone {
		out[0] = '*'
	}
	flags := cut(out, 1, flagBytes(l))
	clear(flags)
	write := writers()
	bit := 0
	for i, at := range offsets(l) {
		f, v := l[i], r.V[i]
		if v.Kind == api.Nil {
			flags[bit/8] |= 1 << (bit % 8)
		} else {
			copy(cut(out, at, f.Width), write[f.Kind](v, f.Width))
		}
		if f.Null {
			bit++
		}
	}
	return out
}

// Bytes returns the bytes of a table.
func Bytes(t api.Table) ([]byte, api.Errno) {
	if e := Validate(t); e != api.OK {
		return nil, e
	}
	return written(t), api.OK
}

func written(t api.Table) []byte {
	out := header(t)
	for _, r := range t.Recs {
		out = append(out, row(t.Fields, r)...)
	}
	return append(out, fileEnd)
}

// Read returns the table with these bytes.
func Read(b []byte) (api.Table, api.Errno) {
	t, ok := parse(b)
	// What parse takes too kindly shows here: a table has just one row of bytes.
	if !ok || Validate(t) != api.OK || !bytes.Equal(written(t), b) {
		return api.Table{}, api.ErrBroken
	}
	return t, api.OK
}

func parse(b []byte) (api.Table, bool) {
	if len(b) < headBytes {
		return api.Table{}, false
	}
	t := api.Table{Page: int(b[1])}
	count, begin := low(b[2:6]), low(b[6:8])
	if begin != headBytes+partBytes*int(b[10])+1 || begin >= len(b) || count > api.MaxRecs {
		return api.Table{}, false
	}
	for i := range int(b[10]) {
		t.Fields = append(t.Fields, readField(cut(b, headBytes+partBytes*i, partBytes)))
	}
	if ValidateFields(t.Fields) != api.OK {
		return api.Table{}, false
	}
	size := length(t.Fields)
	if len(b) != begin+count*size+1 {
		return api.Table{}, false
	}
	for k := range count {
		t.Recs = append(t.Recs, readRow(t.Fields, cut(b, begin+k*size, size)))
	}
	return t, true
}

func readField(b []byte) api.Field {
	return api.Field{
		Name:  string(bytes.TrimRight(b[:10], "\x00")),
		Kind:  max(strings.IndexByte(letters, b[10]), 0),
		Width: int(b[11]),
		Null:  b[12] == 1,
	}
}

func readRow(l []api.Field, b []byte) api.Record {
	r := api.Record{Gone: b[0] == '*'}
	flags := cut(b, 1, flagBytes(l))
	read := readers()
	bit := 0
	for i, at := range offsets(l) {
		f := l[i]
		isNil := f.Null && flags[bit/8]>>(bit%8)&1 == 1
		if f.Null {
			bit++
		}
		if isNil {
			r.V = append(r.V, api.Value{})
		} else {
			r.V = append(r.V, read[f.Kind](string(cut(b, at, f.Width))))
		}
	}
	return r
}

// Modify returns a table with other fields.
func Modify(t api.Table, l []api.Field) (api.Table, api.Errno) {
	if e := Validate(t); e != api.OK {
		return api.Table{}, e
	}
	if e := ValidateFields(l); e != api.OK {
		return api.Table{}, e
	}
	out := api.Table{Page: t.Page, Fields: slices.Clone(l)}
	for _, r := range t.Recs {
		made := api.Record{Gone: r.Gone}
		for _, f := range l {
			made.V = append(made.V, moved(t, r, f))
		}
		out.Recs = append(out.Recs, made)
	}
	return out, api.OK
}

// moved is what a field of another table has of a record.
func moved(t api.Table, r api.Record, to api.Field) api.Value {
	i, ok := Index(t.Fields, to.Name)
	if !ok {
		return blankOf(to)
	}
	v, ok := changed(r.V[i], t.Fields[i].Kind, to.Kind)
	if !ok {
		return blankOf(to)
	}
	v, e := Fit(to, t.Page, v)
	if e != api.OK {
		return blankOf(to)
	}
	return v
}

// changed makes a value of one kind of fields one of another kind.
func changed(v api.Value, from, to int) (api.Value, bool) {
	if from == to || v.Kind == api.Nil {
		return v, true
	}
	if to == api.Text && from != api.Memo {
		return api.Value{Kind: api.Text, S: textOf(v)}, true
	}
	if from != api.Text {
		return api.Value{}, false
	}
	switch to {
	case api.Num:
		return api.Value{Kind: api.Num, N: val.Val(v.S)}, true
	case api.Date:
		day, _ := val.Unstamp(v.S)
		return api.Value{Kind: api.Date, N: day}, true
	case api.Truth:
		if strings.HasPrefix(v.S, "T") || strings.HasPrefix(v.S, "t") {
			return api.Value{Kind: api.Truth, N: 1}, true
		}
		return api.Value{Kind: api.Truth}, true
	}
	return api.Value{}, false
}

// textOf writes a Num, a Date or a Truth as Modify does.
func textOf(v api.Value) string {
	switch v.Kind {
	case api.Date:
		s, _ := val.Stamp(v.N)
		return s
	case api.Truth:
		return writers()[api.Truth](v, 1)
	}
	s, _ := val.Show(v)
	return s
}
