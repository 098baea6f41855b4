package expr

import (
	"slices"

	"cabinetry/api"
	"cabinetry/tree"
)

// copied returns an expression of its own.
func copied(x api.Expr) api.Expr {
	return rebuilt(x, copied)
}

// rebuilt copies a node, with its parts changed.
func rebuilt(x api.Expr, change func(api.Expr) api.Expr) api.Expr {
	x.P = slices.Clone(x.P)
	l := x.L
	x.L = nil
	for _, part := range l {
		x.L = append(x.L, change(part))
	}
	return x
}

func constant(v api.Value) api.Expr {
	return api.Expr{Op: api.XConst, V: v}
}

func binary(op string, x, y api.Expr) api.Expr {
	return api.Expr{Op: api.XBin, S: op, L: []api.Expr{x, y}}
}

func not(x api.Expr) api.Expr {
	return api.Expr{Op: api.XUn, S: ".NOT.", L: []api.Expr{x}}
}

// Fold replaces what is constant by its value.
func Fold(x api.Expr) (api.Expr, api.Errno) {
	if e := tree.ValidateExpr(x); e != api.OK {
		return api.Expr{}, e
	}
	return fold(x), api.OK
}

func fold(x api.Expr) api.Expr {
	if v, ok := settled(x); ok {
		return constant(v)
	}
	return rebuilt(x, fold)
}

// settled returns the value that an expression has in all environments, if it can be written as a constant.
func settled(x api.Expr) (api.Value, bool) {
	if x.Op == api.XConst || !isConst(x) {
		return api.Value{}, false
	}
	var first api.Value
	for i := range 6 {
		v, why := eval(x, api.Env{Page: i / 2, Exact: i%2 == 1})
		if why != 0 || i > 0 && v != first {
			return api.Value{}, false
		}
		first = v
	}
	return first, tree.ValidateExpr(constant(first)) == api.OK
}

// opposite is the comparison that is true where another one is false.
func opposite(op string) (string, bool) {
	switch op {
	case "=":
		return "<>", true
	case "<>":
		return "=", true
	case "<":
		return ">=", true
	case ">=":
		return "<", true
	case ">":
		return "<=", true
	case "<=":
		return ">", true
	}
	return "", false
}

// Negate returns an expression that is true where another one is false.
func Negate(x api.Expr) (api.Expr, api.Errno) {
	if e := tree.ValidateExpr(x); e != api.OK {
		return api.Expr{}, e
	}
	out := negated(x)
	if e := tree.ValidateExpr(out); e != api.OK {
		return api.Expr{}, e
	}
	return out, api.OK
}

// negated is .NOT. of an expression, with .NOT. as far inside as it goes.
func negated(x api.Expr) api.Expr {
	if x.Op == api.XUn && x.S == ".NOT." {
		return truthOf(x.L[0])
	}
	if x.Op == api.XBin {
		switch x.S {
		case ".AND.":
			return binary(".OR.", negated(x.L[0]), negated(x.L[1]))
		case ".OR.":
			return binary(".AND.", negated(x.L[0]), negated(x.L[1]))
		}
		if op, ok := opposite(x.S); ok {
			return binary(op, tidy(x.L[0]), tidy(x.L[1]))
		}
	}
	return not(tidy(x))
}

// tidy is an expression with .NOT. as far inside as it goes, in all its parts.
func tidy(x api.Expr) api.Expr {
	if x.Op == api.XUn && x.S == ".NOT." {
		return negated(x.L[0])
	}
	return rebuilt(x, tidy)
}

// truthOf is .NOT. .NOT. of an expression: the same, but it dies where that is no Truth or Nil.
func truthOf(x api.Expr) api.Expr {
	if isTruth(x) {
		return tidy(x)
	}
	return binary(".AND.", tidy(x), constant(truth(true)))
}

// isTruth tells whether the value of an expression can be a Truth or Nil alone.
func isTruth(x api.Expr) bool {
	if x.Op == api.XUn {
		return x.S == ".NOT."
	}
	if x.Op != api.XBin {
		return false
	}
	_, isComparison := opposite(x.S)
	return isComparison || x.S == "==" || x.S == "$" || x.S == ".AND." || x.S == ".OR."
}

// Parts returns the operands of the .AND.s at the top.
func Parts(x api.Expr) ([]api.Expr, api.Errno) {
	if e := tree.ValidateExpr(x); e != api.OK {
		return nil, e
	}
	return parts(x), api.OK
}

func parts(x api.Expr) []api.Expr {
	if x.Op == api.XBin && x.S == ".AND." {
		return append(parts(x.L[0]), parts(x.L[1])...)
	}
	return []api.Expr{copied(x)}
}
