package core

import (
	"slices"

	"cabinetry/api"
	"cabinetry/expr"
	"cabinetry/tree"
)

// environment is what chapter 8 needs of a run, with values by the names A, B and so on.
func (r *Run) environment(l []Value) (api.Env, []api.Expr) {
	e := api.Env{Exact: r.exact, Page: r.page()}
	var operands []api.Expr
	for i, v := range l {
		name := "V" + string([]byte{byte('A' + i/26), byte('A' + i%26)})
		e.Names = append(e.Names, name)
		e.Vals = append(e.Vals, v.V)
		operands = append(operands, api.Expr{Op: api.XName, S: name})
	}
	return e, operands
}

// page is the page of the current work area's table.
func (r *Run) page() int {
	if r.current == "" {
		return 0
	}
	name, _, _, _ := r.desk.About(r.current)
	return r.pages[name]
}

// apply does an operation or function of chapter 8 with plain values.
func (r *Run) apply(op int, s string, l []Value) (Value, error) {
	e, operands := r.environment(l)
	v, why, err := expr.Eval(api.Expr{Op: op, S: s, L: operands}, e)
	if err != api.OK {
		return die(api.DieRange)
	}
	if why != 0 {
		return die(why)
	}
	return Plain(v), nil
}

// Unary is - or .NOT. of a value.
func (r *Run) Unary(op string, v Value) (Value, error) {
	if !v.isPlain() {
		return die(api.DieType)
	}
	return r.apply(api.XUn, op, []Value{v})
}

// Binary is an operation of two values, but .AND. and .OR.
func (r *Run) Binary(op string, a, b Value) (Value, error) {
	if a.isPlain() && b.isPlain() {
		return r.apply(api.XBin, op, []Value{a, b})
	}
	if a.isNil() || b.isNil() {
		return Value{}, nil
	}
	arrays := a.Array != nil && b.Array != nil
	blocks := a.Block != nil && b.Block != nil
	if !arrays && !blocks {
		return die(api.DieType)
	}
	switch op {
	case "=", "==":
		return truth(a == b), nil
	case "<>":
		return truth(a != b), nil
	}
	return die(api.DieType)
}

// Decides tells whether the first operand of .AND. or .OR. is its value.
func Decides(op string, v Value) (bool, error) {
	if _, err := Condition(v); err != nil {
		return false, err
	}
	return v == truth(op == ".OR."), nil
}

// Joined is .AND. or .OR. of two operands, the first of which does not decide.
func (r *Run) Joined(op string, a, b Value) (Value, error) {
	if _, err := Condition(b); err != nil {
		return Value{}, err
	}
	return r.apply(api.XBin, op, []Value{a, b})
}

// Element returns where an element of an array is kept: DieType, DieRange.
func Element(a, place Value) (*Value, error) {
	if a.Array == nil || !place.isKind(api.Num) {
		return nil, Death{api.DieType}
	}
	n := place.V.N
	if n < 1 || n > len(a.Array.Items) {
		return nil, Death{api.DieRange}
	}
	return &a.Array.Items[n-1], nil
}

// List makes an array of elements.
func List(l []Value) (Value, error) {
	if len(l) > api.MaxItems {
		return die(api.DieRange)
	}
	return Value{Array: &Array{slices.Clone(l)}}, nil
}

// Eval evaluates an expression.
func (r *Run) Eval(at Place, x api.Expr) (Value, error) {
	switch x.Op {
	case api.XConst:
		return Plain(x.V), nil
	case api.XName:
		return r.Load(at, x.S)
	case api.XAlias:
		return r.evalAlias(at, x)
	case api.XCall:
		return r.evalCall(at, x)
	case api.XBin:
		return r.evalBinary(at, x)
	case api.XBlock:
		body := func(at Place) (Value, error) { return r.Eval(at, x.L[0]) }
		return Value{Block: &Block{x.P, at, body}}, nil
	case api.XMacro:
		return r.evalMacro(at, x)
	case api.XRef:
		return die(api.DieRule)
	}
	l, err := r.evalAll(at, x.L)
	if err != nil {
		return Value{}, err
	}
	switch x.Op {
	case api.XUn:
		return r.Unary(x.S, l[0])
	case api.XIndex:
		e, err := Element(l[0], l[1])
		if err != nil {
			return Value{}, err
		}
		return *e, nil
	}
	return List(l)
}

func (r *Run) evalAll(at Place, l []api.Expr) ([]Value, error) {
	var out []Value
	for _, x := range l {
		v, err := r.Eval(at, x)
		if err != nil {
			return nil, err
		}
		out = append(out, v)
	}
	return out, nil
}

func (r *Run) evalAlias(at Place, x api.Expr) (Value, error) {
	before, err := r.Alias(x.S)
	if err != nil {
		return Value{}, err
	}
	defer r.Unalias(before)
	return r.Eval(at, x.L[0])
}

func (r *Run) evalBinary(at Place, x api.Expr) (Value, error) {
	a, err := r.Eval(at, x.L[0])
	if err != nil {
		return Value{}, err
	}
	joins := x.S == ".AND." || x.S == ".OR."
	if joins {
		if decides, err := Decides(x.S, a); decides || err != nil {
			return a, err
		}
	}
	b, err := r.Eval(at, x.L[1])
	if err != nil {
		return Value{}, err
	}
	if joins {
		return r.Joined(x.S, a, b)
	}
	return r.Binary(x.S, a, b)
}

func (r *Run) evalMacro(at Place, x api.Expr) (Value, error) {
	v, err := r.macroValue(at, x)
	if err != nil {
		return Value{}, err
	}
	return r.Macro(at, v)
}

// macroValue is the value of what stands behind &.
func (r *Run) macroValue(at Place, x api.Expr) (Value, error) {
	if x.S != "" {
		return r.Load(at, x.S)
	}
	return r.Eval(at, x.L[0])
}

// Macro evaluates the expression that a text is.
func (r *Run) Macro(at Place, v Value) (Value, error) {
	x, err := r.replaced(v)
	if err != nil {
		return Value{}, err
	}
	defer r.endMacro()
	return r.Eval(at, x)
}

// replaced is the expression that a macro means; behind it endMacro ends the macro.
func (r *Run) replaced(v Value) (api.Expr, error) {
	if err := r.Step(); err != nil {
		return api.Expr{}, err
	}
	if !v.isKind(api.Text) {
		return api.Expr{}, Death{api.DieType}
	}
	x, _, e := tree.ParseExpr(v.V.S)
	if e != api.OK || r.macros >= api.MaxMacros {
		return api.Expr{}, Death{api.DieMacro}
	}
	r.macros++
	return x, nil
}

func (r *Run) endMacro() {
	r.macros--
}
