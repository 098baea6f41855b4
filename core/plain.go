package core

import (
	"slices"

	"cabinetry/api"
	"cabinetry/lex"
	"cabinetry/tree"
)

// isField tells whether the table of the current work area has a field.
func (r *Run) isField(name string) bool {
	_, ok := r.field(name)
	return ok
}

// plain replaces macros and variables in an expression that is handed to a command. Names in an XAlias stay.
func (r *Run) plain(at Place, x api.Expr, inAlias bool) (api.Expr, error) {
	switch x.Op {
	case api.XMacro:
		v, err := r.macroValue(at, x)
		if err != nil {
			return api.Expr{}, err
		}
		meant, err := r.replaced(v)
		if err != nil {
			return api.Expr{}, err
		}
		defer r.endMacro()
		return r.plain(at, meant, inAlias)
	case api.XName:
		v := r.variable(at, x.S)
		if inAlias || v == nil || r.isField(x.S) {
			return x, nil
		}
		return constant(v.Value)
	case api.XAlias:
		inAlias = true
	}
	l := x.L
	x.P, x.L = slices.Clone(x.P), nil
	for _, part := range l {
		made, err := r.plain(at, part, inAlias)
		if err != nil {
			return api.Expr{}, err
		}
		x.L = append(x.L, made)
	}
	return x, nil
}

// constant writes a value as a constant of the language: DieType.
func constant(v Value) (api.Expr, error) {
	if !v.isPlain() {
		return api.Expr{}, Death{api.DieType}
	}
	if v.isKind(api.Num) && v.V.N < 0 {
		x, err := constant(Number(-v.V.N))
		return api.Expr{Op: api.XUn, S: "-", L: []api.Expr{x}}, err
	}
	x := api.Expr{Op: api.XConst, V: v.V}
	if tree.ValidateExpr(x) != api.OK {
		return api.Expr{}, Death{api.DieType}
	}
	return x, nil
}

func (r *Run) plainAll(at Place, l []api.Expr) ([]api.Expr, error) {
	var out []api.Expr
	for _, x := range l {
		made, err := r.plain(at, x, false)
		if err != nil {
			return nil, err
		}
		out = append(out, made)
	}
	return out, nil
}

// plainScope makes the expressions of a scope plain.
func (r *Run) plainScope(at Place, s api.Scope) (api.Scope, error) {
	for _, part := range [...]*[]api.Expr{&s.N, &s.For, &s.While} {
		made, err := r.plainAll(at, *part)
		if err != nil {
			return api.Scope{}, err
		}
		*part = made
	}
	return s, nil
}

// nameOf returns a text in capitals, if this is a name.
func nameOf(s string) (string, bool) {
	b := []byte(s)
	for i, c := range b {
		if c >= 'a' && c <= 'z' {
			b[i] = c - 'a' + 'A'
		}
	}
	return string(b), lex.IsName(string(b))
}
