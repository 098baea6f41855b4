package core

import (
	"slices"

	"cabinetry/api"
	"cabinetry/expr"
)

// own are the functions of a run, with how many arguments they take.
type own struct {
	least, most int
	do          func(r *Run, l []Value) (Value, error)
}

func owns() map[string]own {
	return map[string]own{
		"ARRAY": {1, 1, (*Run).makeArray}, "AADD": {2, 2, (*Run).addElement}, "EVAL": {1, api.MaxNodes, (*Run).evalBlock},
		"EOF": {0, 0, (*Run).eof}, "BOF": {0, 0, (*Run).bof}, "FOUND": {0, 0, (*Run).found},
		"RECCOUNT": {0, 0, (*Run).recordCount}, "ALIAS": {0, 0, (*Run).alias}, "DBVALUE": {1, 1, (*Run).fieldValue},
		"RECNO": {0, 0, (*Run).recordNumber}, "DELETED": {0, 0, (*Run).isDeleted},
	}
}

// TakesCall tells whether there is a function that takes as many arguments: DieName, DieArgs.
func (r *Run) TakesCall(name string, n int) error {
	if proc, ok := r.Find(name); ok {
		return r.TakesArguments(proc, n)
	}
	if f, ok := owns()[name]; ok {
		if n < f.least || n > f.most {
			return Death{api.DieArgs}
		}
		return nil
	}
	_, why, e := expr.Eval(api.Expr{Op: api.XCall, S: name, L: make([]api.Expr, n)}, api.Env{})
	if e != api.OK { // more arguments than any function takes
		why = api.DieArgs
		if _, known := slices.BinarySearch(expr.Functions(), name); !known {
			why = api.DieName
		}
	}
	if why == api.DieName || why == api.DieArgs {
		return Death{why}
	}
	return nil
}

// Function is the value of a function, but of procedures and IF, which takes as many arguments.
func (r *Run) Function(name string, l []Value) (Value, error) {
	if f, ok := owns()[name]; ok {
		return f.do(r, l)
	}
	if !slices.ContainsFunc(l, func(v Value) bool { return !v.isPlain() }) {
		return r.apply(api.XCall, name, l)
	}
	switch name {
	case "EMPTY":
		return truth(l[0].Array != nil && len(l[0].Array.Items) == 0), nil
	case "ISNULL":
		return truth(false), nil
	case "NVL":
		if l[0].isNil() {
			return l[1], nil
		}
		return l[0], nil
	case "TYPE":
		if l[0].Array != nil {
			return text("A"), nil
		}
		return text("B"), nil
	case "LEN":
		if l[0].Array != nil {
			return Number(len(l[0].Array.Items)), nil
		}
	case "BETWEEN", "INLIST": // they tell of Nils by themselves
		return die(api.DieType)
	}
	if slices.ContainsFunc(l, Value.isNil) {
		return Value{}, nil
	}
	return die(api.DieType)
}

func (r *Run) makeArray(l []Value) (Value, error) {
	if !l[0].isKind(api.Num) {
		return die(api.DieType)
	}
	if n := l[0].V.N; n < 0 || n > api.MaxItems {
		return die(api.DieRange)
	}
	return List(make([]Value, l[0].V.N))
}

func (r *Run) addElement(l []Value) (Value, error) {
	a := l[0].Array
	if a == nil {
		return die(api.DieType)
	}
	if len(a.Items) >= api.MaxItems {
		return die(api.DieRange)
	}
	a.Items = append(a.Items, l[1])
	return l[1], nil
}

func (r *Run) evalBlock(l []Value) (Value, error) {
	b := l[0].Block
	if b == nil {
		return die(api.DieType)
	}
	if len(l)-1 > len(b.Params) {
		return die(api.DieArgs)
	}
	if err := r.enter(); err != nil {
		return Value{}, err
	}
	defer r.leave()
	s := &Scope{vars: map[string]*Variable{}, outer: b.At.Scope}
	for i, name := range b.Params {
		s.vars[name] = &Variable{}
		if i+1 < len(l) {
			s.vars[name].Value = l[i+1]
		}
	}
	return b.Body(Place{b.At.Frame, s})
}

func (r *Run) eof([]Value) (Value, error) {
	_, _, eof, e := r.desk.Where(r.current)
	return truth(e != api.OK || eof), nil
}

func (r *Run) bof([]Value) (Value, error) {
	_, bof, _, e := r.desk.Where(r.current)
	return truth(e != api.OK || bof), nil
}

func (r *Run) found([]Value) (Value, error) {
	return truth(r.memories[r.current].found), nil
}

func (r *Run) recordCount([]Value) (Value, error) {
	name, _, _, _ := r.desk.About(r.current)
	t, _ := r.desk.Table(name)
	return Number(len(t.Recs)), nil
}

func (r *Run) recordNumber([]Value) (Value, error) {
	n, _, _, _ := r.desk.Where(r.current)
	return Number(n), nil
}

func (r *Run) isDeleted([]Value) (Value, error) {
	v, _, _ := r.desk.Value(r.current, api.Expr{Op: api.XCall, S: "DELETED"})
	return truth(v.N == 1), nil
}

func (r *Run) alias([]Value) (Value, error) {
	return text(r.current), nil
}

func (r *Run) fieldValue(l []Value) (Value, error) {
	if !l[0].isKind(api.Text) {
		return die(api.DieType)
	}
	v, ok := r.field(l[0].V.S)
	if !ok {
		return die(api.DieName)
	}
	return Plain(v), nil
}

// evalCall is the value of a call in an expression.
func (r *Run) evalCall(at Place, x api.Expr) (Value, error) {
	if err := r.TakesCall(x.S, len(x.L)); err != nil {
		return Value{}, err
	}
	if proc, ok := r.Find(x.S); ok {
		args, err := r.arguments(at, x.L, false)
		if err != nil {
			return Value{}, err
		}
		return r.Invoke(proc, args)
	}
	if x.S == "IF" {
		return r.choose(at, x)
	}
	l, err := r.evalAll(at, x.L)
	if err != nil {
		return Value{}, err
	}
	return r.Function(x.S, l)
}

// choose is IF, of which one part alone is evaluated.
func (r *Run) choose(at Place, x api.Expr) (Value, error) {
	c, err := r.Eval(at, x.L[0])
	if err != nil {
		return Value{}, err
	}
	isTrue, err := Condition(c)
	if err != nil {
		return Value{}, err
	}
	if isTrue {
		return r.Eval(at, x.L[1])
	}
	return r.Eval(at, x.L[2])
}

// arguments evaluates the arguments of a procedure; DO passes variables by their names.
func (r *Run) arguments(at Place, l []api.Expr, byNames bool) ([]*Variable, error) {
	var out []*Variable
	for _, x := range l {
		var a *Variable
		var err error
		switch {
		case x.Op == api.XRef:
			a, err = r.Reference(at, x.S)
		case x.Op == api.XName && byNames:
			a, err = r.Named(at, x.S)
		default:
			var v Value
			v, err = r.Eval(at, x)
			a = Argument(v)
		}
		if err != nil {
			return nil, err
		}
		out = append(out, a)
	}
	return out, nil
}

// FindDone returns the procedure of a DO with as many arguments: DieName, DieArgs.
func (r *Run) FindDone(name string, n int) (int, error) {
	proc, ok := r.Find(name)
	if !ok {
		return 0, Death{api.DieName}
	}
	return proc, r.TakesArguments(proc, n)
}

// Do calls a procedure as DO does.
func (r *Run) Do(at Place, name string, l []api.Expr) error {
	proc, err := r.FindDone(name, len(l))
	if err != nil {
		return err
	}
	args, err := r.arguments(at, l, true)
	if err != nil {
		return err
	}
	_, err = r.Invoke(proc, args)
	return err
}
