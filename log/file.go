package log

import (
	"cabinetry/api"
	"cabinetry/drive"
	"cabinetry/table"
)

// The files of a store.
const (
	dataFile = iota
	logFile
)

// The kinds of records of the log.
const (
	someRecords = 'D' // a difference
	wholeTable  = 'F' // what was before it, also in the data file, counts no more
)

// snapshot is a whole table, as the data file has it.
func snapshot(t api.Table) []byte {
	b, _ := table.Bytes(t)
	return drive.Seal(wholeTable, b)
}

// restore returns the table that two files have, and how many bytes of the log count; what is behind them was torn off by a fall.
func restore(data, log []byte) (api.Table, int, bool) {
	t, found := wholeData(data)
	at := 0
	for {
		kind, body, size, ok := drive.Unseal(log[at:])
		if !ok {
			return api.Table{}, 0, false
		}
		if size == 0 {
			return t, at, found
		}
		switch {
		case kind == wholeTable:
			var e api.Errno
			t, e = table.Read(body)
			found = e == api.OK
			ok = found
		case kind != someRecords:
			ok = false
		case found: // where the data file is torn, a whole table must follow
			t, ok = drive.Patch(t, body)
		}
		if !ok {
			return api.Table{}, 0, false
		}
		at += size
	}
}

// wholeData returns the table of the data file; false: it is torn, as it may be while it is written anew.
func wholeData(b []byte) (api.Table, bool) {
	kind, body, size, ok := drive.Unseal(b)
	if !ok || kind != wholeTable || size != len(b) {
		return api.Table{}, false
	}
	t, e := table.Read(body)
	return t, e == api.OK
}
