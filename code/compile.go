package code

import (
	"strings"

	"cabinetry/api"
	"cabinetry/ops"
	"cabinetry/tree"
)

// buffer is code that grows.
type buffer struct {
	code []api.Code
}

func (b *buffer) emit(op, a, n int, s string) {
	b.code = append(b.code, api.Code{Op: op, A: a, B: n, S: s})
}

func (b *buffer) op(op int, s string) {
	b.emit(op, 0, 0, s)
}

// jump writes an instruction that may go on elsewhere; the closure makes this the next place of the code.
func (b *buffer) jump(op int, s string) func() {
	at := len(b.code)
	b.op(op, s)
	return func() { b.code[at].A = len(b.code) }
}

func (b *buffer) here() int {
	return len(b.code)
}

// loop is a loop around what is written.
type loop struct {
	guards  int      // around it
	leaving []func() // the jumps that leave it
	going   []func() // the jumps to its next turn
}

// compiler writes the code of a unit.
type compiler struct {
	buffer
	program *program
	loops   []*loop
	guards  int
}

// program is the units that were written, and which procedures there are.
type program struct {
	units []api.Unit
	procs map[string]bool
}

// compile writes a program without looking at limits.
func compile(p []api.Proc) []api.Unit {
	m := &program{procs: map[string]bool{}}
	for _, proc := range p {
		kind := ops.Procedure
		if proc.Fn {
			kind = ops.Function
		}
		m.procs[proc.Name] = true
		m.units = append(m.units, api.Unit{Name: proc.Name, Row: []int{kind, len(proc.P)}})
	}
	for i, proc := range p {
		c := &compiler{program: m}
		c.op(ops.Params, strings.Join(proc.P, ","))
		c.block(proc.Body)
		c.constant(api.Value{})
		c.op(ops.Return, "")
		m.units[i].Code = c.code
	}
	return m.units
}

func (c *compiler) constant(v api.Value) {
	c.emit(ops.Const, v.Kind, v.N, v.S)
}

func (c *compiler) exprs(l []api.Expr) {
	for _, x := range l {
		c.expr(x)
	}
}

func (c *compiler) expr(x api.Expr) {
	switch x.Op {
	case api.XConst:
		c.constant(x.V)
	case api.XName:
		c.op(ops.Load, x.S)
	case api.XAlias:
		c.op(ops.Alias, x.S)
		c.expr(x.L[0])
		c.op(ops.Unalias, "")
	case api.XCall:
		c.call(x)
	case api.XUn:
		c.expr(x.L[0])
		c.op(ops.Unary, x.S)
	case api.XBin:
		c.binary(x)
	case api.XIndex:
		c.exprs(x.L)
		c.op(ops.Index, "")
	case api.XList:
		c.exprs(x.L)
		c.emit(ops.List, len(x.L), 0, "")
	case api.XBlock:
		c.emit(ops.MakeBlock, c.program.block(x), 0, "")
	case api.XMacro:
		c.macroText(x)
		c.op(ops.Macro, "")
	case api.XRef:
		c.emit(ops.Die, api.DieRule, 0, "")
	}
}

// block writes the unit of a block and returns its number.
func (p *program) block(x api.Expr) int {
	number := len(p.units)
	p.units = append(p.units, api.Unit{Row: []int{ops.Block, len(x.P)}})
	c := &compiler{program: p}
	c.op(ops.Params, strings.Join(x.P, ","))
	c.expr(x.L[0])
	c.op(ops.Return, "")
	p.units[number].Code = c.code
	return number
}

// macroText puts what stands behind &.
func (c *compiler) macroText(x api.Expr) {
	if x.S != "" {
		c.op(ops.Load, x.S)
	} else {
		c.expr(x.L[0])
	}
}

func (c *compiler) binary(x api.Expr) {
	c.expr(x.L[0])
	if x.S != ".AND." && x.S != ".OR." {
		c.expr(x.L[1])
		c.op(ops.Binary, x.S)
		return
	}
	end := c.jump(ops.Test, x.S)
	c.expr(x.L[1])
	c.op(ops.Join, x.S)
	end()
}

func (c *compiler) call(x api.Expr) {
	isProc := c.program.procs[x.S]
	if x.S == "IF" && !isProc && len(x.L) == 3 {
		c.expr(x.L[0])
		otherwise := c.jump(ops.Unless, "")
		c.expr(x.L[1])
		end := c.jump(ops.Jump, "")
		otherwise()
		c.expr(x.L[2])
		end()
		return
	}
	c.emit(ops.Takes, len(x.L), 0, x.S)
	for _, arg := range x.L {
		if isProc && arg.Op == api.XRef {
			c.op(ops.Reference, arg.S)
		} else {
			c.expr(arg)
		}
	}
	c.emit(ops.Call, len(x.L), 0, x.S)
}

func (c *compiler) block(l []api.Stmt) {
	for _, s := range l {
		c.op(ops.Step, "")
		c.stmt(s)
	}
}

func (c *compiler) stmt(s api.Stmt) {
	switch s.Op {
	case api.SSet:
		c.expr(s.X[1])
		c.target(s.X[0])
	case api.SPrint:
		c.exprs(s.X)
		c.emit(ops.Print, len(s.X), 0, "")
	case api.SDeclare:
		c.declare(s)
	case api.SIf:
		c.branch(s)
	case api.SWhile:
		c.while(s)
	case api.SFor:
		c.count(s)
	case api.SLoop, api.SExit:
		c.leaveLoop(s.Op == api.SExit)
	case api.SReturn:
		c.optional(s.X)
		c.op(ops.Return, "")
	case api.SBreak:
		c.optional(s.X)
		c.op(ops.Break, "")
	case api.SDo:
		c.do(s)
	case api.SEval:
		c.expr(s.X[0])
		c.op(ops.Pop, "")
	case api.SGuard:
		c.guard(s)
	case api.SCmd:
		c.command(s)
	}
}

// optional puts a value, or Nil if there is none.
func (c *compiler) optional(l []api.Expr) {
	if len(l) == 0 {
		c.constant(api.Value{})
	}
	c.exprs(l)
}

func (c *compiler) target(x api.Expr) {
	switch x.Op {
	case api.XIndex:
		c.exprs(x.L)
		c.op(ops.StoreIndex, "")
	case api.XAlias:
		c.op(ops.StoreField, x.S+" "+x.L[0].S)
	case api.XMacro:
		c.macroText(x)
		c.op(ops.StoreMacro, "")
	default:
		c.op(ops.Store, x.S)
	}
}

func (c *compiler) declare(s api.Stmt) {
	for i, name := range s.P {
		over := func() {}
		op := ops.Local
		switch s.S {
		case "PRIVATE":
			op = ops.Private
		case "STATIC":
			op = ops.Static
			over = c.jump(ops.HasStatic, name)
		case "PUBLIC":
			op = ops.Public
			over = c.jump(ops.HasPublic, name)
		}
		c.expr(s.X[i])
		c.op(op, name)
		over()
	}
}

func (c *compiler) branch(s api.Stmt) {
	var ends []func()
	for i, x := range s.X {
		c.expr(x)
		otherwise := c.jump(ops.Unless, "")
		c.block(s.B[i])
		ends = append(ends, c.jump(ops.Jump, ""))
		otherwise()
	}
	if len(s.B) > len(s.X) {
		c.block(s.B[len(s.X)])
	}
	for _, end := range ends {
		end()
	}
}

// turn writes the body of a loop, and then what comes before the next turn.
func (c *compiler) turn(l []api.Stmt, next func()) {
	around := &loop{guards: c.guards}
	c.loops = append(c.loops, around)
	c.op(ops.Step, "")
	c.block(l)
	for _, goOn := range around.going {
		goOn()
	}
	next()
	for _, leave := range around.leaving {
		leave()
	}
	c.loops = c.loops[:len(c.loops)-1]
}

func (c *compiler) while(s api.Stmt) {
	head := c.here()
	c.expr(s.X[0])
	exit := c.jump(ops.Unless, "")
	c.turn(s.B[0], func() { c.emit(ops.Jump, head, 0, "") })
	exit()
}

func (c *compiler) count(s api.Stmt) {
	c.exprs(s.X)
	c.op(ops.ForBegin, "")
	head := c.here()
	exit := c.jump(ops.ForTest, s.S)
	c.turn(s.B[0], func() {
		c.op(ops.ForNext, s.S)
		c.emit(ops.Jump, head, 0, "")
	})
	exit()
	c.emit(ops.Drop, 3, 0, "")
}

func (c *compiler) leaveLoop(exits bool) {
	if len(c.loops) == 0 {
		c.emit(ops.Die, api.DieRule, 0, "")
		return
	}
	around := c.loops[len(c.loops)-1]
	if n := c.guards - around.guards; n > 0 {
		c.emit(ops.Unguard, n, 0, "")
	}
	jump := c.jump(ops.Jump, "")
	if exits {
		around.leaving = append(around.leaving, jump)
	} else {
		around.going = append(around.going, jump)
	}
}

func (c *compiler) do(s api.Stmt) {
	c.emit(ops.TakesDo, len(s.X), 0, s.S)
	for _, arg := range s.X {
		switch arg.Op {
		case api.XRef:
			c.op(ops.Reference, arg.S)
		case api.XName:
			c.op(ops.Pass, arg.S)
		default:
			c.expr(arg)
		}
	}
	c.emit(ops.Do, len(s.X), 0, s.S)
}

func (c *compiler) guard(s api.Stmt) {
	caught := c.jump(ops.Guard, "")
	c.guards++
	c.block(s.B[0])
	c.guards--
	c.emit(ops.Unguard, 1, 0, "")
	end := c.jump(ops.Jump, "")
	caught()
	if s.S != "" {
		c.op(ops.Store, s.S)
	} else {
		c.op(ops.Pop, "")
	}
	if len(s.B) > 1 {
		c.block(s.B[1])
	}
	end()
}

func (c *compiler) command(s api.Stmt) {
	switch s.S {
	case "GO", "SKIP", "SEEK":
		c.op(ops.Need, "")
	default:
		line, e := tree.Text([]api.Proc{{Name: "MAIN", Body: []api.Stmt{s}}})
		if e != api.OK { // Compile refuses it
			line = strings.Repeat(" ", api.MaxSource+1)
		}
		c.op(ops.Command, line)
		return
	}
	switch {
	case s.T != "":
		c.op(ops.GoEnd, s.T)
		return
	case len(s.X) == 0:
		c.constant(api.Value{Kind: api.Num, N: 1})
	}
	c.exprs(s.X)
	c.op(map[string]int{"GO": ops.Go, "SKIP": ops.Skip, "SEEK": ops.Seek}[s.S], "")
}
