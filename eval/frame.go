package eval

import (
	"slices"

	"barbican/api"
	"barbican/names"
	"barbican/word"
)

// frame of a function that is called.
type frame struct {
	run    *run
	place  int // of its unit
	unit   api.Unit
	fun    api.Func
	params []int
	ahead  int // so many frames
}

// variable of that name: a param comes first. The program was checked: there is one.
func (f *frame) variable(name string) *int {
	if i := slices.Index(f.fun.Params, name); i >= 0 {
		return &f.params[i]
	}
	return &f.run.cells[f.place].Vars[slices.Index(f.unit.Vars, name)]
}

// element of the array of that name. The program was checked: there is such an array.
func (f *frame) element(name string, at int) *int {
	i := slices.IndexFunc(f.unit.Arrays, func(a api.Array) bool { return a.Name == name })
	l := f.run.cells[f.place].Arrays[i]
	if at >= len(l) {
		panic(ending(api.Edge))
	}
	return &l[at]
}

// stmts, one by one, until one returns a value.
func (f *frame) stmts(l []api.Stmt) (value int, returns bool) {
	for _, s := range l {
		if value, returns = f.stmt(s); returns {
			return value, true
		}
	}
	return 0, false
}

func (f *frame) stmt(s api.Stmt) (value int, returns bool) {
	f.run.burn()
	switch s.Kind {
	case api.Set:
		n := f.expr(s.Exprs[0])
		*f.variable(s.S) = n
	case api.SetAt:
		// Both ahead of the element: its edge is asked behind them.
		l := f.exprs(s.Exprs)
		*f.element(s.S, l[0]) = l[1]
	case api.If:
		if f.expr(s.Exprs[0]) != 0 {
			return f.stmts(s.Body)
		}
		return f.stmts(s.Else)
	case api.While:
		return f.while(s)
	case api.Return:
		return f.expr(s.Exprs[0]), true
	default: // the program was checked: this is Say.
		f.run.tell(f.expr(s.Exprs[0]))
	}
	return 0, false
}

func (f *frame) while(s api.Stmt) (value int, returns bool) {
	for f.expr(s.Exprs[0]) != 0 {
		if value, returns = f.stmts(s.Body); returns {
			return value, true
		}
		f.run.burn() // it asks again; for the first time it asks by the fuel of the statement
	}
	return 0, false
}

func (f *frame) exprs(l []api.Expr) []int {
	values := make([]int, len(l))
	for i, x := range l {
		values[i] = f.expr(x)
	}
	return values
}

func (f *frame) expr(x api.Expr) int {
	f.run.burn()
	args := f.exprs(x.Args)
	switch x.Kind {
	case api.Number:
		return x.N
	case api.Var:
		return *f.variable(x.S)
	case api.Elem:
		return *f.element(x.S, args[0])
	case api.Ask:
		return f.ask(x.Of, x.S, args)
	default: // the program was checked: this is Two, of an operation, and cells and params are words alone.
		n, _ := word.Do(x.N, args[0], args[1])
		return n
	}
}

// ask a function of a unit, by that one's name, or of the frame's own.
func (f *frame) ask(unit, fun string, args []int) int {
	place := f.place
	if unit != "" {
		place = names.Unit(f.run.units, unit)
	}
	return f.run.call(place, fun, args, f.ahead+1)
}
