package key

import (
	"strings"

	"cabinetry/api"
)

// bounds are two ascending keys between which a value has its key; an empty one: there is no bound but the kind's.
type bounds struct {
	lo, hi         string
	withLo, withHi bool
}

// Range returns two keys between which all values have theirs that compare so with v, and whether there are no others.
func Range(op string, v api.Value, exact bool, p, coll int, down bool) (string, string, bool, api.Errno) {
	if e := wrongValues([]api.Value{v}, p, coll); e != api.OK {
		return "", "", false, e
	}
	if !isOperator(op) {
		return "", "", false, api.ErrArg
	}
	if v.Kind == api.Nil {
		return "", "", false, api.ErrType
	}
	isText := v.Kind == api.Text
	if op == "=" && isText && !exact {
		begin := turned(prefix(v.S, p, coll), down)
		behind, _ := Behind(begin)
		return begin, behind, coll == 0 && len(v.S) < mostWeights, api.OK
	}
	var b bounds
	switch {
	case op == "=" && isText:
		b = trimmed(v.S, p, coll)
	case isText && coll != 0 && op != "==": // the order of texts is another one than that of their keys
	default:
		b = compared(op, encode(v, p, coll), isText && len(v.S) >= mostWeights)
	}
	lo, hi := b.keys(byte(v.Kind), down)
	sure := coll == 0 && (!isText || len(v.S) < mostWeights && op != "=")
	return lo, hi, sure, api.OK
}

func isOperator(op string) bool {
	switch op {
	case "=", "==", "<", "<=", ">", ">=":
		return true
	}
	return false
}

// trimmed are the bounds of the texts that are s with any blanks at their ends.
func trimmed(s string, p, coll int) bounds {
	s = strings.TrimRight(s, " ")
	padded := s + strings.Repeat(" ", max(mostWeights-len(s), 0))
	return bounds{prefix(s, p, coll) + textEnd, prefix(padded, p, coll) + textEnd, true, true}
}

// compared are the bounds of what compares so with a key; cut: the key has not all of its text, so that what has the same key may be less or greater.
func compared(op, k string, cut bool) bounds {
	switch op {
	case "<", "<=":
		return bounds{hi: k, withHi: cut || op == "<="}
	case ">", ">=":
		return bounds{lo: k, withLo: cut || op == ">="}
	}
	return bounds{k, k, true, true}
}

// keys returns the key from which the bounds go on, and the one below which they stay.
func (b bounds) keys(kind byte, down bool) (string, string) {
	lo, hi, withLo, withHi := turned(b.lo, down), turned(b.hi, down), b.withLo, b.withHi
	if down {
		lo, hi, withLo, withHi = hi, lo, withHi, withLo
	}
	all := turned(string([]byte{kind}), down)
	if lo == "" {
		lo = all
	} else if !withLo {
		lo += "\x00"
	}
	if hi == "" {
		hi, _ = Behind(all)
	} else if withHi {
		hi += "\x00"
	}
	return lo, hi
}
