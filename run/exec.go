package run

import (
	"errors"

	"cabinetry/api"
	"cabinetry/core"
	"cabinetry/val"
)

// leaving is a LOOP or an EXIT on its way to its loop.
type leaving struct {
	exits bool
}

func (l leaving) Error() string { return "a loop is left" }

// returning is a RETURN on its way out of its call.
type returning struct {
	value core.Value
}

func (r returning) Error() string { return "a call is left" }

// interpreter executes the statements of a program.
type interpreter struct {
	*core.Run
	procs []api.Proc
}

// call is a call of a procedure, and how many loops are around what is executed.
type call struct {
	core.Place
	loops int
}

// begin begins a run of a program: the errors of area.New.
func begin(p []api.Proc, names []string, tables []api.Table) (*interpreter, api.Errno) {
	var procs []core.Procedure
	for _, proc := range p {
		procs = append(procs, core.Procedure{Name: proc.Name, Params: proc.P})
	}
	r, e := core.New(procs, names, tables)
	if e != api.OK {
		return nil, e
	}
	i := &interpreter{Run: r, procs: p}
	r.Exec = i.body
	return i, api.OK
}

// body executes the body of the procedure of a call.
func (i *interpreter) body(f *core.Frame) (core.Value, error) {
	err := i.block(&call{Place: core.Place{Frame: f}}, i.procs[f.Proc].Body)
	var r returning
	if errors.As(err, &r) {
		return r.value, nil
	}
	return core.Value{}, err
}

func (i *interpreter) block(c *call, l []api.Stmt) error {
	for _, s := range l {
		if err := i.Step(); err != nil {
			return err
		}
		if err := i.stmt(c, s); err != nil {
			return err
		}
	}
	return nil
}

func (i *interpreter) stmt(c *call, s api.Stmt) error {
	switch s.Op {
	case api.SSet:
		return i.set(c, s)
	case api.SPrint:
		l, err := i.values(c, s.X)
		if err != nil {
			return err
		}
		return i.Print(l)
	case api.SDeclare:
		return i.declare(c, s)
	case api.SIf:
		return i.branch(c, s)
	case api.SWhile:
		return i.while(c, s)
	case api.SFor:
		return i.count(c, s)
	case api.SLoop, api.SExit:
		if c.loops == 0 {
			return core.Death{Why: api.DieRule}
		}
		return leaving{s.Op == api.SExit}
	case api.SReturn, api.SBreak:
		return i.leave(c, s)
	case api.SDo:
		return i.Do(c.Place, s.S, s.X)
	case api.SEval:
		_, err := i.Eval(c.Place, s.X[0])
		return err
	case api.SGuard:
		return i.guard(c, s)
	}
	return i.Command(c.Place, s)
}

func (i *interpreter) values(c *call, l []api.Expr) ([]core.Value, error) {
	var out []core.Value
	for _, x := range l {
		v, err := i.Eval(c.Place, x)
		if err != nil {
			return nil, err
		}
		out = append(out, v)
	}
	return out, nil
}

func (i *interpreter) set(c *call, s api.Stmt) error {
	target := s.X[0]
	v, err := i.Eval(c.Place, s.X[1])
	if err != nil {
		return err
	}
	switch target.Op {
	case api.XIndex:
		l, err := i.values(c, target.L)
		if err != nil {
			return err
		}
		e, err := core.Element(l[0], l[1])
		if err != nil {
			return err
		}
		*e = v
		return nil
	case api.XAlias:
		return i.SetField(target.S, target.L[0].S, v)
	case api.XMacro:
		var name core.Value
		if target.S != "" {
			name, err = i.Load(c.Place, target.S)
		} else {
			name, err = i.Eval(c.Place, target.L[0])
		}
		if err != nil {
			return err
		}
		return i.SetNamed(c.Place, name, v)
	}
	i.Store(c.Place, target.S, v)
	return nil
}

func (i *interpreter) declare(c *call, s api.Stmt) error {
	for n, name := range s.P {
		if s.S == "STATIC" && i.HasStatic(c.Frame, name) || s.S == "PUBLIC" && i.HasPublic(name) {
			continue
		}
		v, err := i.Eval(c.Place, s.X[n])
		if err != nil {
			return err
		}
		switch s.S {
		case "LOCAL":
			i.Local(c.Frame, name, v)
		case "PRIVATE":
			i.Private(name, v)
		case "STATIC":
			i.Static(c.Frame, name, v)
		default:
			i.Public(name, v)
		}
	}
	return nil
}

// holds tells whether a condition is true.
func (i *interpreter) holds(c *call, x api.Expr) (bool, error) {
	v, err := i.Eval(c.Place, x)
	if err != nil {
		return false, err
	}
	return core.Condition(v)
}

func (i *interpreter) branch(c *call, s api.Stmt) error {
	for n, x := range s.X {
		ok, err := i.holds(c, x)
		if err != nil {
			return err
		}
		if ok {
			return i.block(c, s.B[n])
		}
	}
	if len(s.B) > len(s.X) {
		return i.block(c, s.B[len(s.X)])
	}
	return nil
}

// turn does a turn of a loop and tells whether the loop goes on.
func (i *interpreter) turn(c *call, l []api.Stmt) (bool, error) {
	if err := i.Step(); err != nil {
		return false, err
	}
	c.loops++
	err := i.block(c, l)
	c.loops--
	var left leaving
	if errors.As(err, &left) {
		return !left.exits, nil
	}
	return err == nil, err
}

func (i *interpreter) while(c *call, s api.Stmt) error {
	for {
		ok, err := i.holds(c, s.X[0])
		if err != nil || !ok {
			return err
		}
		if ok, err = i.turn(c, s.B[0]); err != nil || !ok {
			return err
		}
	}
}

func (i *interpreter) count(c *call, s api.Stmt) error {
	l, err := i.values(c, s.X)
	if err != nil {
		return err
	}
	from, err := core.Bounds(l[0], l[1], l[2])
	if err != nil {
		return err
	}
	for {
		i.Store(c.Place, s.S, from)
		if core.IsBeyond(from, l[1], l[2]) {
			return nil
		}
		if ok, err := i.turn(c, s.B[0]); err != nil || !ok {
			return err
		}
		if from, err = i.Next(c.Place, s.S, l[2]); err != nil {
			return err
		}
	}
}

func (i *interpreter) leave(c *call, s api.Stmt) error {
	l, err := i.values(c, s.X)
	if err != nil {
		return err
	}
	var v core.Value
	if len(l) > 0 {
		v = l[0]
	}
	if s.Op == api.SReturn {
		return returning{v}
	}
	return i.Break(v)
}

func (i *interpreter) guard(c *call, s api.Stmt) error {
	i.Sequences++
	err := i.block(c, s.B[0])
	i.Sequences--
	v, ok := core.Caught(err)
	if !ok {
		return err
	}
	if s.S != "" {
		i.Store(c.Place, s.S, v)
	}
	if len(s.B) > 1 {
		return i.block(c, s.B[1])
	}
	return nil
}

// isValue tells whether an argument is a value.
func isValue(v api.Value) bool {
	return val.Validate(v) == api.OK
}
