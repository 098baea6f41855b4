package vm

import (
	"strings"

	"cabinetry/api"
	"cabinetry/core"
	"cabinetry/ops"
)

func operations() [ops.Count]operation {
	return [ops.Count]operation{
		ops.Params: (*activation).params, ops.Const: (*activation).constant, ops.Load: (*activation).load, ops.Unary: (*activation).unary, ops.Binary: (*activation).binary,
		ops.Test: (*activation).test, ops.Join: (*activation).join, ops.Index: (*activation).index, ops.List: (*activation).list, ops.MakeBlock: (*activation).block, ops.Macro: (*activation).macro,
		ops.Reference: (*activation).reference, ops.Pass: (*activation).pass, ops.Takes: (*activation).takes, ops.TakesDo: (*activation).takesDo, ops.Call: (*activation).call, ops.Do: (*activation).do,
		ops.Die: (*activation).die, ops.Unless: (*activation).unless, ops.Jump: (*activation).jump, ops.Alias: (*activation).alias, ops.Unalias: (*activation).unalias, ops.Pop: (*activation).drop,
		ops.Step: (*activation).step, ops.Store: (*activation).store, ops.StoreIndex: (*activation).storeIndex, ops.StoreField: (*activation).storeField, ops.StoreMacro: (*activation).storeMacro,
		ops.Print: (*activation).print, ops.Local: (*activation).local, ops.Private: (*activation).private, ops.Static: (*activation).static, ops.Public: (*activation).public,
		ops.HasStatic: (*activation).hasStatic, ops.HasPublic: (*activation).hasPublic, ops.ForBegin: (*activation).forBegin, ops.ForTest: (*activation).forTest, ops.ForNext: (*activation).forNext,
		ops.Drop: (*activation).drop, ops.Return: (*activation).leave, ops.Guard: (*activation).guard, ops.Unguard: (*activation).unguard, ops.Break: (*activation).breaks,
		ops.Need: (*activation).need, ops.GoEnd: (*activation).goEnd, ops.Go: (*activation).goes, ops.Skip: (*activation).skip, ops.Seek: (*activation).seek, ops.Command: (*activation).commands,
	}
}

func (a *activation) params(api.Code) error {
	return nil
}

func (a *activation) constant(c api.Code) error {
	return a.push(core.Plain(api.Value{Kind: c.A, N: c.B, S: c.S}))
}

func (a *activation) load(c api.Code) error {
	return a.give(a.Load(a.at, c.S))
}

func (a *activation) unary(c api.Code) error {
	return a.give(a.Unary(c.S, a.pop()))
}

func (a *activation) binary(c api.Code) error {
	y := a.pop()
	x := a.pop()
	return a.give(a.Binary(c.S, x, y))
}

func (a *activation) test(c api.Code) error {
	v := a.pop()
	decides, err := core.Decides(c.S, v)
	if err != nil {
		return err
	}
	if err := a.push(v); err != nil {
		return err
	}
	return a.goIf(decides, c.A)
}

func (a *activation) join(c api.Code) error {
	y := a.pop()
	x := a.pop()
	if _, err := core.Condition(x); err != nil { // Test has asked in made code
		return err
	}
	return a.give(a.Joined(c.S, x, y))
}

func (a *activation) index(api.Code) error {
	place := a.pop()
	e, err := core.Element(a.pop(), place)
	if err != nil {
		return err
	}
	return a.push(*e)
}

func values(l []item) []core.Value {
	var out []core.Value
	for _, i := range l {
		out = append(out, i.Value)
	}
	return out
}

func (a *activation) list(c api.Code) error {
	return a.give(core.List(values(a.take(c.A))))
}

func (a *activation) block(c api.Code) error {
	m, unit := a.machine, c.A
	body := func(at core.Place) (core.Value, error) { return m.exec(unit, at) }
	return a.push(core.Value{Block: &core.Block{Params: params(a.units[unit]), At: a.at, Body: body}})
}

func (a *activation) macro(api.Code) error {
	return a.give(a.Macro(a.at, a.pop()))
}

func (a *activation) reference(c api.Code) error {
	v, err := a.Reference(a.at, c.S)
	if err != nil {
		return err
	}
	return a.put(item{variable: v})
}

func (a *activation) pass(c api.Code) error {
	v, err := a.Named(a.at, c.S)
	if err != nil {
		return err
	}
	return a.put(item{variable: v})
}

func (a *activation) takes(c api.Code) error {
	return a.TakesCall(c.S, c.A)
}

func (a *activation) takesDo(c api.Code) error {
	_, err := a.FindDone(c.S, c.A)
	return err
}

// variables are arguments as a procedure takes them.
func variables(l []item) []*core.Variable {
	var out []*core.Variable
	for _, i := range l {
		if i.variable == nil {
			i.variable = core.Argument(i.Value)
		}
		out = append(out, i.variable)
	}
	return out
}

func (a *activation) call(c api.Code) error {
	l := a.take(c.A)
	if err := a.TakesCall(c.S, len(l)); err != nil {
		return err
	}
	if proc, ok := a.Find(c.S); ok {
		return a.give(a.Invoke(proc, variables(l)))
	}
	return a.give(a.Function(c.S, values(l)))
}

func (a *activation) do(c api.Code) error {
	l := a.take(c.A)
	proc, err := a.FindDone(c.S, len(l))
	if err != nil {
		return err
	}
	_, err = a.Invoke(proc, variables(l))
	return err
}

func (a *activation) die(c api.Code) error {
	return core.Death{Why: c.A}
}

func (a *activation) unless(c api.Code) error {
	is, err := core.Condition(a.pop())
	if err != nil {
		return err
	}
	return a.goIf(!is, c.A)
}

func (a *activation) jump(c api.Code) error {
	return a.goTo(c.A)
}

func (a *activation) alias(c api.Code) error {
	before, err := a.Alias(c.S)
	if err != nil {
		return err
	}
	a.areas = append(a.areas, before)
	return nil
}

func (a *activation) unalias(api.Code) error {
	a.restore(max(len(a.areas)-1, 0))
	return nil
}

// drop is Pop and Drop.
func (a *activation) drop(c api.Code) error {
	a.take(max(c.A, 1))
	return nil
}

func (a *activation) step(api.Code) error {
	return a.Step()
}

func (a *activation) store(c api.Code) error {
	a.Store(a.at, c.S, a.pop())
	return nil
}

func (a *activation) storeIndex(api.Code) error {
	place := a.pop()
	array := a.pop()
	v := a.pop()
	e, err := core.Element(array, place)
	if err != nil {
		return err
	}
	*e = v
	return nil
}

func (a *activation) storeField(c api.Code) error {
	alias, field, _ := strings.Cut(c.S, " ")
	return a.SetField(alias, field, a.pop())
}

func (a *activation) storeMacro(api.Code) error {
	name := a.pop()
	return a.SetNamed(a.at, name, a.pop())
}

func (a *activation) print(c api.Code) error {
	return a.Print(values(a.take(c.A)))
}

func (a *activation) local(c api.Code) error {
	a.Local(a.at.Frame, c.S, a.pop())
	return nil
}

func (a *activation) private(c api.Code) error {
	a.Private(c.S, a.pop())
	return nil
}

func (a *activation) static(c api.Code) error {
	a.Static(a.at.Frame, c.S, a.pop())
	return nil
}

func (a *activation) public(c api.Code) error {
	a.Public(c.S, a.pop())
	return nil
}

func (a *activation) hasStatic(c api.Code) error {
	return a.goIf(a.HasStatic(a.at.Frame, c.S), c.A)
}

func (a *activation) hasPublic(c api.Code) error {
	return a.goIf(a.HasPublic(c.S), c.A)
}

func (a *activation) forBegin(api.Code) error {
	step := a.pop()
	to := a.pop()
	from, err := core.Bounds(a.pop(), to, step)
	if err != nil {
		return err
	}
	a.stack = append(a.stack, item{Value: to}, item{Value: step})
	return a.push(from)
}

func (a *activation) forTest(c api.Code) error {
	v := a.pop()
	step := a.pop()
	to := a.pop()
	a.Store(a.at, c.S, v)
	a.stack = append(a.stack, item{Value: to}, item{Value: step}, item{Value: v})
	return a.goIf(core.IsBeyond(v, to, step), c.A)
}

func (a *activation) forNext(c api.Code) error {
	a.pop()
	step := a.pop()
	v, err := a.Next(a.at, c.S, step)
	if err != nil {
		return err
	}
	a.stack = append(a.stack, item{Value: step}, item{Value: v})
	return nil
}

func (a *activation) leave(api.Code) error {
	a.result, a.done = a.pop(), true
	return nil
}

func (a *activation) guard(c api.Code) error {
	a.handlers = append(a.handlers, handler{c.A, len(a.stack), len(a.areas)})
	a.Sequences++
	return nil
}

func (a *activation) unguard(c api.Code) error {
	n := min(c.A, len(a.handlers))
	a.handlers = a.handlers[:len(a.handlers)-n]
	a.Sequences -= n
	return nil
}

func (a *activation) breaks(api.Code) error {
	return a.Break(a.pop())
}

func (a *activation) need(api.Code) error {
	return a.NeedArea()
}

func (a *activation) goEnd(c api.Code) error {
	return a.GoEnd(c.S)
}

func (a *activation) goes(api.Code) error {
	return a.Go(a.pop())
}

func (a *activation) skip(api.Code) error {
	return a.Skip(a.pop())
}

func (a *activation) seek(api.Code) error {
	return a.Seek(a.pop())
}

func (a *activation) commands(c api.Code) error {
	s, ok := a.command(c.S)
	if !ok {
		return core.Death{Why: api.DieData}
	}
	return a.Command(a.at, s)
}
