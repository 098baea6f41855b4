package core

import (
	"cabinetry/api"
	"cabinetry/cmd"
	"cabinetry/tree"
)

// request is a command with the expressions that were made plain.
type request struct {
	api.Stmt
	at Place
}

// refused is what a command dies by whose error is not OK.
func refused(e api.Errno) error {
	if e != api.OK {
		return Death{api.DieData}
	}
	return nil
}

// commands are what does the commands; GO, SKIP and SEEK are done by what they are evaluated to.
func commands() map[string]func(r *Run, q request) error {
	return map[string]func(r *Run, q request) error{
		"SELECT": (*Run).doSelect, "USE": (*Run).doUse, "GO": (*Run).doGo, "SKIP": (*Run).doSkip, "SEEK": (*Run).doSeek,
		"LOCATE": (*Run).doLocate, "CONTINUE": (*Run).doContinue, "REPLACE": (*Run).doReplace, "DELETE": (*Run).doDelete, "RECALL": (*Run).doRecall,
		"APPEND": (*Run).doAppend, "PACK": (*Run).doPack, "ZAP": (*Run).doZap, "COUNT": (*Run).doCount, "SUM": (*Run).doSum, "INDEX": (*Run).doIndex,
		"ORDER": (*Run).doOrder, "FILTER": (*Run).doFilter, "RELATION": (*Run).doRelation, "EXACT": (*Run).doSwitch, "DELETED": (*Run).doSwitch,
	}
}

// Command does a command.
func (r *Run) Command(at Place, s api.Stmt) error {
	do, ok := commands()[s.S]
	if !ok {
		return Death{api.DieData}
	}
	isFree := s.S == "SELECT" || s.S == "USE" && len(s.P) > 0 || s.S == "EXACT" || s.S == "DELETED"
	if err := r.NeedArea(); err != nil && !isFree {
		return err
	}
	switch s.S {
	case "REPLACE", "SUM", "INDEX", "FILTER", "RELATION":
		var err error
		if s.X, err = r.plainAll(at, s.X); err != nil {
			return err
		}
	}
	var err error
	if s.C, err = r.plainScope(at, s.C); err != nil {
		return err
	}
	return do(r, request{s, at})
}

// NeedArea tells that a command wants a current work area.
func (r *Run) NeedArea() error {
	if r.current == "" {
		return Death{api.DieData}
	}
	return nil
}

func (r *Run) doSelect(q request) error {
	if !r.isOpen(q.P[0]) {
		return Death{api.DieData}
	}
	r.current = q.P[0]
	return nil
}

// forget forgets what is known of a work area that is closed.
func (r *Run) forget(alias string) {
	delete(r.memories, alias)
	if r.current == alias {
		r.current = ""
	}
}

func (r *Run) doUse(q request) error {
	if len(q.P) == 0 {
		alias := r.current
		r.forget(alias)
		return refused(r.desk.Close(alias))
	}
	name, alias := q.P[0], q.P[len(q.P)-1]
	if _, isTable := r.pages[name]; !isTable {
		return Death{api.DieData}
	}
	if r.desk.Close(alias) == api.OK {
		r.forget(alias)
	}
	if e := r.desk.Open(name, alias); e != api.OK {
		return refused(e)
	}
	r.current = alias
	return nil
}

func (r *Run) doGo(q request) error {
	if q.T != "" {
		return r.GoEnd(q.T)
	}
	return r.withValue(q, r.Go)
}

// withValue evaluates a command's expression and does something with it.
func (r *Run) withValue(q request, do func(v Value) error) error {
	v, err := r.Eval(q.at, q.X[0])
	if err != nil {
		return err
	}
	return do(v)
}

// GoEnd is GO TOP and GO BOTTOM.
func (r *Run) GoEnd(word string) error {
	if word == "TOP" {
		return refused(r.desk.Top(r.current))
	}
	return refused(r.desk.Bottom(r.current))
}

// Go is GO to a record.
func (r *Run) Go(v Value) error {
	if !v.isKind(api.Num) {
		return Death{api.DieType}
	}
	return refused(r.desk.Go(r.current, v.V.N))
}

func (r *Run) doSkip(q request) error {
	if len(q.X) == 0 {
		return r.Skip(Number(1))
	}
	return r.withValue(q, r.Skip)
}

// Skip is SKIP by a number.
func (r *Run) Skip(v Value) error {
	if !v.isKind(api.Num) {
		return Death{api.DieType}
	}
	return refused(r.desk.Skip(r.current, v.V.N))
}

func (r *Run) doSeek(q request) error {
	return r.withValue(q, r.Seek)
}

// Seek is SEEK of a value.
func (r *Run) Seek(v Value) error {
	if !v.isPlain() {
		return Death{api.DieType}
	}
	found, e := r.desk.Seek(r.current, v.V, false)
	if e != api.OK {
		return refused(e)
	}
	r.setFound(found)
	return nil
}

func (r *Run) setFound(found bool) {
	m := r.memories[r.current]
	m.found = found
	r.memories[r.current] = m
}

func (r *Run) doLocate(q request) error {
	found, e := cmd.Locate(r.desk, r.current, q.C)
	if e != api.OK {
		return refused(e)
	}
	r.memories[r.current] = memory{found: found, located: true, cond: q.C.For}
	return nil
}

func (r *Run) doContinue(request) error {
	m := r.memories[r.current]
	if !m.located {
		return Death{api.DieData}
	}
	before := r.desk.Copy()
	for {
		r.desk.Skip(r.current, 1)
		if _, _, eof, _ := r.desk.Where(r.current); eof {
			r.setFound(false)
			return nil
		}
		isFound := true
		for _, x := range m.cond {
			v, why, e := r.desk.Value(r.current, x)
			if why != 0 || e != api.OK {
				r.desk.Become(before)
				return Death{api.DieData}
			}
			isFound = v == api.Value{Kind: api.Truth, N: 1}
		}
		if isFound {
			r.setFound(true)
			return nil
		}
	}
}

func (r *Run) doReplace(q request) error {
	_, e := cmd.Replace(r.desk, r.current, q.P, q.X, q.C)
	return refused(e)
}

func (r *Run) doDelete(q request) error {
	_, e := cmd.Delete(r.desk, r.current, q.C)
	return refused(e)
}

func (r *Run) doRecall(q request) error {
	_, e := cmd.Recall(r.desk, r.current, q.C)
	return refused(e)
}

func (r *Run) doAppend(request) error {
	_, e := r.desk.Append(r.current)
	return refused(e)
}

func (r *Run) doPack(request) error {
	_, e := r.desk.Pack(r.current)
	return refused(e)
}

func (r *Run) doZap(request) error {
	_, e := r.desk.Zap(r.current)
	return refused(e)
}

func (r *Run) doCount(q request) error {
	n, e := cmd.Count(r.desk, r.current, q.C)
	if e != api.OK {
		return refused(e)
	}
	r.Store(q.at, q.P[0], Number(n))
	return nil
}

func (r *Run) doSum(q request) error {
	l, e := cmd.Sum(r.desk, r.current, q.X, q.C)
	if e != api.OK {
		return refused(e)
	}
	r.Store(q.at, q.P[0], Number(l[0]))
	return nil
}

func (r *Run) doIndex(q request) error {
	g := api.Tag{Name: q.P[0], Down: len(q.P) > 1}
	var e api.Errno
	if g.Key, e = tree.ExprText(q.X[0]); e != api.OK {
		return refused(e)
	}
	if len(q.X) > 1 {
		if g.For, e = tree.ExprText(q.X[1]); e != api.OK {
			return refused(e)
		}
	}
	switch q.T {
	case "UNIQUE":
		g.Uniq = 1
	case "CANDIDATE":
		g.Uniq = 2
	}
	if e := r.desk.Tag(r.current, g); e != api.OK {
		return refused(e)
	}
	return refused(r.desk.Order(r.current, g.Name))
}

func (r *Run) doOrder(q request) error {
	name := ""
	if len(q.P) > 0 {
		name = q.P[0]
	}
	return refused(r.desk.Order(r.current, name))
}

func (r *Run) doFilter(q request) error {
	cond := ""
	if len(q.X) > 0 {
		var e api.Errno
		if cond, e = tree.ExprText(q.X[0]); e != api.OK {
			return refused(e)
		}
	}
	return refused(r.desk.Filter(r.current, cond))
}

func (r *Run) doRelation(q request) error {
	if len(q.X) == 0 {
		return refused(r.desk.Unrelate(r.current))
	}
	s, e := tree.ExprText(q.X[0])
	if e != api.OK {
		return refused(e)
	}
	return refused(r.desk.Relate(r.current, s, q.P[0]))
}

func (r *Run) doSwitch(q request) error {
	on := q.T == "ON"
	if q.S == "EXACT" {
		r.exact = on
	} else {
		r.deleted = on
	}
	return refused(r.desk.Switch(r.exact, r.deleted))
}

// SetField sets a field of the record in a work area.
func (r *Run) SetField(alias, field string, v Value) error {
	if !v.isPlain() {
		return Death{api.DieType}
	}
	return refused(r.desk.Set(alias, []string{field}, []api.Value{v.V}))
}

// SetNamed sets the variable whose name a text is: DieType, DieMacro.
func (r *Run) SetNamed(at Place, name, v Value) error {
	if err := r.Step(); err != nil {
		return err
	}
	if !name.isKind(api.Text) {
		return Death{api.DieType}
	}
	s, ok := nameOf(name.V.S)
	if !ok {
		return Death{api.DieMacro}
	}
	r.Store(at, s, v)
	return nil
}
