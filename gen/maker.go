package gen

import (
	"slices"

	"barbican/api"
	"barbican/names"
)

// spare local, behind all params.
const spare = api.MaxParams

// maker of a unit's code. The program was checked: all names in it are there.
type maker struct {
	writer
	units  []api.Unit
	unit   api.Unit
	base   int
	params []string // of the function that is made
}

// funcs of the unit, one behind the other, and where they begin.
func (m *maker) funcs() []int {
	begins := make([]int, len(m.unit.Funcs))
	for i, f := range m.unit.Funcs {
		begins[i] = len(m.code)
		m.params = f.Params
		m.stmts(f.Body)
		m.put(api.Push, 0)
		m.put(api.Ret, 0)
	}
	return begins
}

func (m *maker) stmts(l []api.Stmt) {
	for _, s := range l {
		if m.full() {
			return
		}
		m.stmt(s)
	}
}

func (m *maker) stmt(s api.Stmt) {
	switch s.Kind {
	case api.Set:
		m.set(s)
	case api.SetAt:
		m.setAt(s)
	case api.If:
		m.branch(s)
	case api.While:
		m.loop(s)
	case api.Return:
		m.exprs(s.Exprs)
		m.put(api.Ret, 0)
	default: // the program was checked: this is Say.
		m.exprs(s.Exprs)
		m.put(api.Tell, 0)
	}
}

func (m *maker) set(s api.Stmt) {
	if local := m.local(s.S); local >= 0 {
		m.exprs(s.Exprs)
		m.put(api.Put, local)
		return
	}
	m.put(api.Push, m.variable(s.S))
	m.exprs(s.Exprs)
	m.put(api.Store, 0)
}

// setAt takes the value away from above the place, as the edge is asked behind both.
func (m *maker) setAt(s api.Stmt) {
	m.exprs(s.Exprs)
	m.put(api.Put, spare)
	m.element(s.S)
	m.put(api.Get, spare)
	m.put(api.Store, 0)
}

func (m *maker) branch(s api.Stmt) {
	m.exprs(s.Exprs)
	past := m.put(api.Jz, 0)
	m.stmts(s.Body)
	if len(s.Else) > 0 {
		end := m.put(api.Jump, 0)
		m.land(past)
		m.stmts(s.Else)
		past = end
	}
	m.land(past)
}

func (m *maker) loop(s api.Stmt) {
	again := len(m.code)
	m.exprs(s.Exprs)
	out := m.put(api.Jz, 0)
	m.stmts(s.Body)
	m.put(api.Jump, again)
	m.land(out)
}

func (m *maker) exprs(l []api.Expr) {
	for _, x := range l {
		if m.full() {
			return
		}
		m.expr(x)
	}
}

// expr leaves one word more than there was.
func (m *maker) expr(x api.Expr) {
	m.exprs(x.Args)
	switch x.Kind {
	case api.Number:
		m.put(api.Push, x.N)
	case api.Var:
		m.value(x.S)
	case api.Elem:
		m.element(x.S)
		m.put(api.Load, 0)
	case api.Ask:
		m.ask(x)
	default: // the program was checked: this is Two.
		m.put(api.Do, x.N)
	}
}

func (m *maker) value(name string) {
	if local := m.local(name); local >= 0 {
		m.put(api.Get, local)
		return
	}
	m.put(api.Push, m.variable(name))
	m.put(api.Load, 0)
}

// element: the last word, a place in an array, becomes the place of the unit's word that is meant. The edge of an array is within those of the part, so the machine does not ask for it.
func (m *maker) element(array string) {
	from, size := m.array(array)
	m.put(api.Dup, 0)
	m.put(api.Push, size)
	m.put(api.Do, api.Lt)
	m.edges = append(m.edges, m.put(api.Jz, 0))
	m.put(api.Push, from)
	m.put(api.Do, api.Add)
}

// ask by one instruction: a call has one frame, as it has when the program is called.
func (m *maker) ask(x api.Expr) {
	if x.Of == "" {
		m.write(api.Instr{Op: api.Call, A: names.Func(m.unit, x.S), B: len(x.Args)})
		return
	}
	part := names.Unit(m.units, x.Of)
	m.write(api.Instr{Op: api.Gate, A: part, B: entry(m.units[part], x.S), C: len(x.Args)})
}

// entry of an open function: only those ahead of it that are open, too, count.
func entry(u api.Unit, name string) int {
	n := 0
	for _, f := range u.Funcs[:names.Func(u, name)] {
		if f.Open {
			n++
		}
	}
	return n
}

// local of a param; -1: the name is none of the function's.
func (m *maker) local(name string) int { return slices.Index(m.params, name) }

// variable of the unit: the place of its word.
func (m *maker) variable(name string) int { return m.base + slices.Index(m.unit.Vars, name) }

// array of the unit: the place of its first word, and how many they are.
func (m *maker) array(name string) (from, size int) {
	i := slices.IndexFunc(m.unit.Arrays, func(a api.Array) bool { return a.Name == name })
	from = m.base + len(m.unit.Vars)
	for _, a := range m.unit.Arrays[:i] {
		from += a.Size
	}
	return from, m.unit.Arrays[i].Size
}
