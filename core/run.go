package core

import (
	"errors"
	"slices"
	"strings"

	"cabinetry/api"
	"cabinetry/area"
)

// Procedure is what is known of a procedure: its name and its parameters.
type Procedure struct {
	Name   string
	Params []string
}

// private is a dynamic variable.
type private struct {
	name string
	*Variable
}

// memory is what a run keeps of a work area beside the desk.
type memory struct {
	found   bool
	located bool
	cond    []api.Expr // of the last LOCATE
}

// Run is a run.
type Run struct {
	// Exec executes the body of the procedure of a call.
	Exec func(f *Frame) (Value, error)
	// Sequences is how many sequences are being executed.
	Sequences int

	procs    []Procedure
	desk     *area.Desk
	names    []string
	pages    map[string]int
	current  string // an alias, or empty: there is no current work area
	exact    bool
	deleted  bool
	memories map[string]memory
	publics  map[string]*Variable
	privates []private
	statics  []map[string]*Variable
	lines    []string
	steps    int
	depth    int
	macros   int
}

// New begins a run over tables: the errors of area.New.
func New(procs []Procedure, names []string, tables []api.Table) (*Run, api.Errno) {
	desk, e := area.New(names, tables)
	if e != api.OK {
		return nil, e
	}
	r := &Run{procs: procs, desk: desk, names: slices.Clone(names), pages: map[string]int{}, memories: map[string]memory{}, publics: map[string]*Variable{}}
	for i, name := range names {
		r.pages[name] = tables[i].Page
	}
	for range procs {
		r.statics = append(r.statics, map[string]*Variable{})
	}
	return r, api.OK
}

// Find returns the number of a procedure.
func (r *Run) Find(name string) (int, bool) {
	i := slices.IndexFunc(r.procs, func(p Procedure) bool { return p.Name == name })
	return i, i >= 0
}

// Step counts a step.
func (r *Run) Step() error {
	r.steps++
	if r.steps > api.MaxRun {
		return ErrTired
	}
	return nil
}

// enter counts a step and a call in the others; leave ends the call.
func (r *Run) enter() error {
	if err := r.Step(); err != nil {
		return err
	}
	if r.depth >= api.MaxDepth {
		return ErrTired
	}
	r.depth++
	return nil
}

func (r *Run) leave() {
	r.depth--
}

// variable returns the variable for which a name stands; nil: none.
func (r *Run) variable(at Place, name string) *Variable {
	for s := at.Scope; s != nil; s = s.outer {
		if v := s.vars[name]; v != nil {
			return v
		}
	}
	if v := at.Frame.locals[name]; v != nil {
		return v
	}
	if v := r.statics[at.Frame.Proc][name]; v != nil {
		return v
	}
	for _, p := range slices.Backward(r.privates) {
		if p.name == name {
			return p.Variable
		}
	}
	return r.publics[name]
}

// field returns the value of a field of the current work area.
func (r *Run) field(name string) (api.Value, bool) {
	if r.current == "" {
		return api.Value{}, false
	}
	v, why, e := r.desk.Value(r.current, api.Expr{Op: api.XName, S: name})
	return v, why == 0 && e == api.OK
}

// Load returns the value for which a name stands.
func (r *Run) Load(at Place, name string) (Value, error) {
	if v := r.variable(at, name); v != nil {
		return v.Value, nil
	}
	if v, ok := r.field(name); ok {
		return Plain(v), nil
	}
	return die(api.DieName)
}

// Store sets a variable; if there is none, a PRIVATE one is made.
func (r *Run) Store(at Place, name string, v Value) {
	if found := r.variable(at, name); found != nil {
		found.Value = v
		return
	}
	r.Private(name, v)
}

// Local makes a local variable.
func (r *Run) Local(f *Frame, name string, v Value) {
	f.locals[name] = &Variable{v}
}

// Private pushes a dynamic variable, which goes with the call.
func (r *Run) Private(name string, v Value) {
	r.privates = append(r.privates, private{name, &Variable{v}})
}

// HasStatic tells whether the procedure of a call has a static variable.
func (r *Run) HasStatic(f *Frame, name string) bool {
	return r.statics[f.Proc][name] != nil
}

// Static makes a static variable of the procedure of a call.
func (r *Run) Static(f *Frame, name string, v Value) {
	r.statics[f.Proc][name] = &Variable{v}
}

// HasPublic tells whether there is a dynamic variable at the bottom.
func (r *Run) HasPublic(name string) bool {
	return r.publics[name] != nil
}

// Public makes a dynamic variable at the bottom.
func (r *Run) Public(name string, v Value) {
	r.publics[name] = &Variable{v}
}

// Argument is an argument of a procedure: a value, or a variable itself.
func Argument(v Value) *Variable {
	return &Variable{v}
}

// Reference returns the variable that is passed by its name.
func (r *Run) Reference(at Place, name string) (*Variable, error) {
	if v := r.variable(at, name); v != nil {
		return v, nil
	}
	if _, ok := r.field(name); ok {
		return nil, Death{api.DieRule}
	}
	return nil, Death{api.DieName}
}

// Named returns what DO passes for a name: a variable itself, or the value of a field.
func (r *Run) Named(at Place, name string) (*Variable, error) {
	if v := r.variable(at, name); v != nil {
		return v, nil
	}
	v, err := r.Load(at, name)
	return Argument(v), err
}

// TakesArguments tells whether a procedure takes as many arguments.
func (r *Run) TakesArguments(proc, n int) error {
	if n > len(r.procs[proc].Params) {
		return Death{api.DieArgs}
	}
	return nil
}

// Invoke calls a procedure, which takes as many arguments.
func (r *Run) Invoke(proc int, args []*Variable) (Value, error) {
	if err := r.enter(); err != nil {
		return Value{}, err
	}
	defer r.leave()
	f := &Frame{Proc: proc, locals: map[string]*Variable{}}
	for i, name := range r.procs[proc].Params {
		f.locals[name] = &Variable{}
		if i < len(args) {
			f.locals[name] = args[i]
		}
	}
	base := len(r.privates)
	defer func() { r.privates = r.privates[:base] }()
	return r.Exec(f)
}

// Print adds a line, which is a text like others: DieRange.
func (r *Run) Print(l []Value) error {
	var words []string
	for _, v := range l {
		words = append(words, v.Text())
	}
	line := strings.Join(words, " ")
	if len(line) > api.MaxText {
		return Death{api.DieRange}
	}
	if len(r.lines) >= api.MaxItems {
		return ErrTired
	}
	r.lines = append(r.lines, line)
	return nil
}

// Alias makes a work area the current one and returns the one before: DieName.
func (r *Run) Alias(name string) (string, error) {
	if !r.isOpen(name) {
		return "", Death{api.DieName}
	}
	before := r.current
	r.current = name
	return before, nil
}

// Unalias makes the work area from before the current one again, unless it was closed.
func (r *Run) Unalias(before string) {
	r.current = before
	if !r.isOpen(before) {
		r.current = ""
	}
}

func (r *Run) isOpen(alias string) bool {
	_, _, _, e := r.desk.Where(alias)
	return e == api.OK
}

// Main executes MAIN, and then perhaps a procedure with arguments, and tells how the run ends.
func (r *Run) Main(name string, args []api.Value) (api.Outcome, []api.Table) {
	main, _ := r.Find("MAIN")
	v, err := r.Invoke(main, nil)
	if err == nil && name != "" {
		v, err = r.call(name, args)
	}
	return r.outcome(v, err)
}

// call calls a procedure from outside.
func (r *Run) call(name string, args []api.Value) (Value, error) {
	proc, ok := r.Find(name)
	if !ok {
		return die(api.DieName)
	}
	if err := r.TakesArguments(proc, len(args)); err != nil {
		return Value{}, err
	}
	var l []*Variable
	for _, v := range args {
		l = append(l, Argument(Plain(v)))
	}
	return r.Invoke(proc, l)
}

func (r *Run) outcome(v Value, err error) (api.Outcome, []api.Table) {
	if err != nil && errors.Is(err, ErrTired) {
		return api.Outcome{Kind: api.Tired}, nil
	}
	o := api.Outcome{Kind: api.Done, Lines: r.lines, Value: v.Text()}
	if err != nil {
		o = api.Outcome{Kind: api.Died, Why: WhyOf(err), Lines: r.lines}
	}
	var tables []api.Table
	for _, name := range r.names {
		t, _ := r.desk.Table(name)
		tables = append(tables, t)
	}
	return o, tables
}

// WhyOf is why something dies.
func WhyOf(err error) int {
	var d Death
	if errors.As(err, &d) {
		return d.Why
	}
	return api.DieRule
}

// Caught returns what a sequence sets its variable to; false: a quota is used up, or nothing was left by what breaks or dies.
func Caught(err error) (Value, bool) {
	var b Broken
	if errors.As(err, &b) {
		return b.Value, true
	}
	var d Death
	if errors.As(err, &d) {
		return Number(d.Why), true
	}
	return Value{}, false
}

// Break is the way out of a BREAK.
func (r *Run) Break(v Value) error {
	if r.Sequences == 0 {
		return Death{api.DieRule}
	}
	return Broken{v}
}

// Publics returns the PUBLIC variables with their texts.
func (r *Run) Publics() []string {
	var out []string
	for name, v := range r.publics {
		out = append(out, name+"="+v.Value.Text())
	}
	slices.Sort(out)
	return out
}

// Bounds returns the first value of a FOR: DieType, DieRange.
func Bounds(from, to, step Value) (Value, error) {
	if !from.isKind(api.Num) || !to.isKind(api.Num) || !step.isKind(api.Num) {
		return die(api.DieType)
	}
	if step.V.N == 0 {
		return die(api.DieRange)
	}
	return from, nil
}

// IsBeyond tells whether a value of a FOR is beyond its end.
func IsBeyond(v, to, step Value) bool {
	if step.V.N > 0 {
		return v.V.N > to.V.N
	}
	return v.V.N < to.V.N
}

// Next is the next value of the variable of a FOR: DieType, DieRange.
func (r *Run) Next(at Place, name string, step Value) (Value, error) {
	v, err := r.Load(at, name)
	if err != nil {
		return Value{}, err
	}
	if !v.isKind(api.Num) {
		return die(api.DieType)
	}
	return r.Binary("+", v, step)
}
