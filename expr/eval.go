package expr

import (
	"slices"
	"strings"

	"cabinetry/api"
	"cabinetry/val"
)

// death is why an expression has no value.
type death struct {
	why int
}

func (d death) Error() string {
	return "an expression dies"
}

// die returns no value, and why.
func die(why int) (api.Value, error) {
	return api.Value{}, death{why}
}

// evaluator evaluates expressions in one environment.
type evaluator struct {
	env   api.Env
	table map[string]function
}

// find returns a function; the table is made when the first one is wanted.
func (m *evaluator) find(name string) (function, bool) {
	if m.table == nil {
		m.table = functions()
	}
	f, ok := m.table[name]
	return f, ok
}

func truth(b bool) api.Value {
	if b {
		return api.Value{Kind: api.Truth, N: 1}
	}
	return api.Value{Kind: api.Truth}
}

func isTrue(v api.Value) bool {
	return v == truth(true)
}

func isNil(v api.Value) bool {
	return v.Kind == api.Nil
}

func (m *evaluator) eval(x api.Expr) (api.Value, error) {
	switch x.Op {
	case api.XConst:
		return x.V, nil
	case api.XName:
		i := slices.Index(m.env.Names, x.S)
		if i < 0 {
			return die(api.DieName)
		}
		return m.env.Vals[i], nil
	case api.XUn:
		return m.unary(x)
	case api.XBin:
		return m.binary(x)
	case api.XCall:
		return m.call(x)
	}
	return die(api.DieRule)
}

func (m *evaluator) unary(x api.Expr) (api.Value, error) {
	v, err := m.eval(x.L[0])
	if err != nil || isNil(v) {
		return v, err
	}
	switch {
	case x.S == "-" && v.Kind == api.Num:
		v.N = -v.N
		return v, nil
	case x.S == ".NOT." && v.Kind == api.Truth:
		return truth(v.N == 0), nil
	}
	return die(api.DieType)
}

func (m *evaluator) binary(x api.Expr) (api.Value, error) {
	switch x.S {
	case ".AND.":
		return m.joined(x, truth(false))
	case ".OR.":
		return m.joined(x, truth(true))
	}
	a, err := m.eval(x.L[0])
	if err != nil {
		return a, err
	}
	b, err := m.eval(x.L[1])
	if err != nil {
		return b, err
	}
	if op := strings.Index("+-*/%^", x.S); op >= 0 {
		return do(op, a, b)
	}
	return m.compare(x.S, a, b)
}

// do does one of val's operations, which have the order of the signs.
func do(op int, a, b api.Value) (api.Value, error) {
	v, why, e := val.Do(op, a, b)
	if e != api.OK {
		return die(api.DieRange)
	}
	if why != 0 {
		return die(why)
	}
	return v, nil
}

// joined is .AND. or .OR., which the value deciding decides.
func (m *evaluator) joined(x api.Expr, deciding api.Value) (api.Value, error) {
	unknown := false
	for _, part := range x.L {
		v, err := m.eval(part)
		if err != nil {
			return v, err
		}
		if v.Kind != api.Truth && v.Kind != api.Nil {
			return die(api.DieType)
		}
		if v == deciding {
			return v, nil
		}
		unknown = unknown || isNil(v)
	}
	if unknown {
		return api.Value{}, nil
	}
	return truth(deciding.N == 0), nil
}

func (m *evaluator) compare(op string, a, b api.Value) (api.Value, error) {
	if isNil(a) || isNil(b) {
		return api.Value{}, nil
	}
	if a.Kind != b.Kind || op == "$" && a.Kind != api.Text {
		return die(api.DieType)
	}
	switch op {
	case "$":
		return truth(a.S != "" && strings.Contains(b.S, a.S)), nil
	case "==":
		return truth(a == b), nil
	case "=":
		return truth(m.isEqual(a, b)), nil
	case "<>":
		return truth(!m.isEqual(a, b)), nil
	}
	n, _ := val.Compare(a, b)
	holds := n < 0 && op[0] == '<' || n > 0 && op[0] == '>' || n == 0 && len(op) == 2
	return truth(holds), nil
}

// isEqual compares two values of one kind as = does.
func (m *evaluator) isEqual(a, b api.Value) bool {
	if a.Kind == api.Text {
		return val.Equal(a.S, b.S, m.env.Exact)
	}
	return a == b
}

func (m *evaluator) call(x api.Expr) (api.Value, error) {
	f, ok := m.find(x.S)
	if !ok {
		return die(api.DieName)
	}
	if len(x.L) < f.least || len(x.L) > f.most {
		return die(api.DieArgs)
	}
	if x.S == "IF" {
		return m.choose(x)
	}
	var l []api.Value
	for _, part := range x.L {
		v, err := m.eval(part)
		if err != nil {
			return v, err
		}
		l = append(l, v)
	}
	if f.kinds == "" {
		return f.do(m, l)
	}
	if slices.ContainsFunc(l, isNil) {
		return api.Value{}, nil
	}
	for i, v := range l {
		if f.kinds[i] != 'V' && f.kinds[i] != kindLetter(v) {
			return die(api.DieType)
		}
	}
	return f.do(m, l)
}

// choose is IF, of which one part alone is evaluated.
func (m *evaluator) choose(x api.Expr) (api.Value, error) {
	c, err := m.eval(x.L[0])
	if err != nil {
		return c, err
	}
	if c.Kind != api.Truth && c.Kind != api.Nil {
		return die(api.DieType)
	}
	if isTrue(c) {
		return m.eval(x.L[1])
	}
	return m.eval(x.L[2])
}

// kindLetter is what TYPE tells.
func kindLetter(v api.Value) byte {
	return "ULNDC"[v.Kind]
}
