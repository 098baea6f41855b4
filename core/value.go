// Package core is what the interpreter and the machine have in common: the values and variables of a run, its expressions, calls and commands.
package core

import (
	"errors"
	"strconv"

	"cabinetry/api"
	"cabinetry/val"
)

// Value is a value of a run: a plain one, an array, or a block.
type Value struct {
	V     api.Value
	Array *Array
	Block *Block
}

// Array has elements; a reference to it is the value.
type Array struct {
	Items []Value
}

// Block is an expression with the place where it was made.
type Block struct {
	Params []string
	At     Place
	Body   func(at Place) (Value, error)
}

// Variable is a variable, without its name.
type Variable struct {
	Value Value
}

// Scope are the parameters of a block that is evaluated, and those of the blocks around it.
type Scope struct {
	vars  map[string]*Variable
	outer *Scope
}

// Frame is a call of a procedure.
type Frame struct {
	Proc   int
	locals map[string]*Variable
}

// Place is where something is evaluated: in a call, and perhaps in blocks.
type Place struct {
	Frame *Frame
	Scope *Scope
}

// Death is why a run dies.
type Death struct {
	Why int
}

func (d Death) Error() string { return "the run dies" }

// Broken is a BREAK on its way out.
type Broken struct {
	Value Value
}

func (b Broken) Error() string { return "a break" }

// ErrTired is that a quota is used up.
var ErrTired = errors.New("a quota is used up")

func die(why int) (Value, error) {
	return Value{}, Death{why}
}

// Plain makes a value of a run of one of chapter 1.
func Plain(v api.Value) Value {
	return Value{V: v}
}

// Number makes a value of a number.
func Number(n int) Value {
	return Plain(api.Value{Kind: api.Num, N: n})
}

func truth(b bool) Value {
	if b {
		return Plain(api.Value{Kind: api.Truth, N: 1})
	}
	return Plain(api.Value{Kind: api.Truth})
}

func text(s string) Value {
	return Plain(api.Value{Kind: api.Text, S: s})
}

func (v Value) isPlain() bool {
	return v.Array == nil && v.Block == nil
}

func (v Value) isNil() bool {
	return v.isPlain() && v.V.Kind == api.Nil
}

func (v Value) isKind(kind int) bool {
	return v.isPlain() && v.V.Kind == kind
}

// Text is the text of a value as it is printed.
func (v Value) Text() string {
	switch {
	case v.Array != nil:
		return "ARRAY " + strconv.Itoa(len(v.Array.Items))
	case v.Block != nil:
		return "BLOCK"
	}
	s, _ := val.Show(v.V)
	return s
}

// Condition tells whether a condition is true; Nil counts as false.
func Condition(v Value) (bool, error) {
	if !v.isNil() && !v.isKind(api.Truth) {
		return false, Death{api.DieType}
	}
	return v.V.N == 1, nil
}
