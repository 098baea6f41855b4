package vm

import (
	"strings"

	"cabinetry/api"
	"cabinetry/core"
	"cabinetry/ops"
	"cabinetry/tree"
)

// mostItems is more than any made code has on a stack.
const mostItems = 4000

// machine runs code.
type machine struct {
	*core.Run
	units   []api.Unit
	procs   []int // the units of procedures
	table   [ops.Count]operation
	profile []int
	turns   int // how often the code went back
	parsed  map[string]api.Stmt
}

// operation is what an instruction does.
type operation func(a *activation, c api.Code) error

// begin begins a run of code: the errors of area.New.
func begin(l []api.Unit, names []string, tables []api.Table) (*machine, api.Errno) {
	m := &machine{units: l, table: operations(), profile: make([]int, len(l)), parsed: map[string]api.Stmt{}}
	var procs []core.Procedure
	for i, u := range l {
		if u.Row[0] != ops.Block {
			m.procs = append(m.procs, i)
			procs = append(procs, core.Procedure{Name: u.Name, Params: params(u)})
		}
	}
	r, e := core.New(procs, names, tables)
	if e != api.OK {
		return nil, e
	}
	m.Run = r
	r.Exec = func(f *core.Frame) (core.Value, error) {
		return m.exec(m.procs[f.Proc], core.Place{Frame: f})
	}
	return m, api.OK
}

// params are the parameters of a unit.
func params(u api.Unit) []string {
	if u.Code[0].S == "" {
		return nil
	}
	return strings.Split(u.Code[0].S, ",")
}

// item is what stands on a stack: a value, or a variable itself.
type item struct {
	core.Value
	variable *core.Variable
}

// handler is where a sequence goes on that was left.
type handler struct {
	target, items, areas int
}

// activation is a unit that is being executed.
type activation struct {
	*machine
	at       core.Place
	code     []api.Code
	pc       int
	stack    []item
	handlers []handler
	areas    []string // the current work areas from before each Alias
	done     bool
	result   core.Value
}

// exec executes a unit.
func (m *machine) exec(unit int, at core.Place) (core.Value, error) {
	a := &activation{machine: m, at: at, code: m.units[unit].Code}
	for !a.done && a.pc < len(a.code) {
		c := a.code[a.pc]
		a.pc++
		m.profile[unit]++
		err := m.table[c.Op](a, c)
		if err != nil && !a.catch(err) {
			a.restore(0)
			m.Sequences -= len(a.handlers)
			return core.Value{}, err
		}
	}
	a.restore(0)
	m.Sequences -= len(a.handlers)
	return a.result, nil
}

// catch goes on where the innermost sequence catches what leaves it.
func (a *activation) catch(err error) bool {
	last := len(a.handlers) - 1
	v, ok := core.Caught(err)
	if last < 0 || !ok {
		return false
	}
	h := a.handlers[last]
	a.handlers = a.handlers[:last]
	a.Sequences--
	a.restore(h.areas)
	a.stack = a.stack[:min(h.items, len(a.stack))]
	a.pc = h.target
	return a.push(v) == nil
}

// restore makes the work area the current one that it was when there were n of them.
func (a *activation) restore(n int) {
	if n < len(a.areas) {
		a.Unalias(a.areas[n])
		a.areas = a.areas[:n]
	}
}

func (a *activation) push(v core.Value) error {
	return a.put(item{Value: v})
}

func (a *activation) put(i item) error {
	if len(a.stack) >= mostItems {
		return core.ErrTired
	}
	a.stack = append(a.stack, i)
	return nil
}

// result puts a value, unless there is an error.
func (a *activation) give(v core.Value, err error) error {
	if err != nil {
		return err
	}
	return a.push(v)
}

// pop takes what is on top; code that was not made finds Nil where there is nothing.
func (a *activation) pop() core.Value {
	l := a.take(1)
	if len(l) == 0 {
		return core.Value{}
	}
	return l[0].Value
}

// take takes items, in the order in which they were put.
func (a *activation) take(n int) []item {
	from := max(len(a.stack)-n, 0)
	l := a.stack[from:]
	a.stack = a.stack[:from:from]
	return l
}

// goTo goes on at an instruction.
func (a *activation) goTo(target int) error {
	if target < a.pc {
		a.turns++
		if a.turns > api.MaxRun {
			return core.ErrTired
		}
	}
	a.pc = target
	return nil
}

// goIf goes on at an instruction if something is so.
func (a *activation) goIf(is bool, target int) error {
	if is {
		return a.goTo(target)
	}
	return nil
}

// command returns the command that a line is.
func (m *machine) command(line string) (api.Stmt, bool) {
	s, ok := m.parsed[line]
	if !ok {
		p, _, e := tree.Parse(line)
		if e != api.OK || len(p) != 1 || len(p[0].Body) != 1 || p[0].Body[0].Op != api.SCmd {
			return api.Stmt{}, false
		}
		s = p[0].Body[0]
		m.parsed[line] = s
	}
	return s, true
}
