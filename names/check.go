package names

import "barbican/api"

// scope of a function: closures find what the names in its body stand for, so that the body is gone through without a word of units.
type scope struct {
	variable func(name string) bool
	array    func(name string) bool
	function func(unit, name string) (api.Func, bool)
}

// tooManyWords of all units. By the limits of today no program whose units may be has as many; they might change one by one.
func tooManyWords(p []api.Unit) bool {
	n := 0
	for _, u := range p {
		n += Words(u)
	}
	return n > api.MaxData
}

// checkUnit of a program, all of whose units may be, each for itself.
func checkUnit(p []api.Unit, u api.Unit) api.Errno {
	// Variables and arrays are the words of a unit, and share their names; functions have names of their own.
	if both(varsOf(u), arraysOf(u)).twice() || funcsOf(u).twice() {
		return api.ErrTwice
	}
	for _, f := range u.Funcs {
		if paramsOf(f).twice() {
			return api.ErrTwice
		}
		if e := scopeOf(p, u, f).stmts(f.Body); e != api.OK {
			return e
		}
	}
	return api.OK
}

func scopeOf(p []api.Unit, u api.Unit, f api.Func) scope {
	return scope{
		variable: both(paramsOf(f), varsOf(u)).has,
		array:    arraysOf(u).has,
		function: func(unit, name string) (api.Func, bool) {
			if unit == "" {
				return funcOf(u, name)
			}
			i := Unit(p, unit)
			if i < 0 {
				return api.Func{}, false
			}
			// Whoever names a unit stands at its gate, even one that names its own.
			f, ok := funcOf(p[i], name)
			return f, ok && f.Open
		},
	}
}

func funcOf(u api.Unit, name string) (api.Func, bool) {
	i := Func(u, name)
	if i < 0 {
		return api.Func{}, false
	}
	return u.Funcs[i], true
}

func (s scope) stmts(l []api.Stmt) api.Errno {
	for _, x := range l {
		if e := s.stmt(x); e != api.OK {
			return e
		}
	}
	return api.OK
}

func (s scope) stmt(x api.Stmt) api.Errno {
	if x.Kind == api.Set && !s.variable(x.S) || x.Kind == api.SetAt && !s.array(x.S) {
		return api.ErrNone
	}
	if e := s.exprs(x.Exprs); e != api.OK {
		return e
	}
	if e := s.stmts(x.Body); e != api.OK {
		return e
	}
	return s.stmts(x.Else)
}

func (s scope) exprs(l []api.Expr) api.Errno {
	for _, x := range l {
		if e := s.named(x); e != api.OK {
			return e
		}
		if e := s.exprs(x.Args); e != api.OK {
			return e
		}
	}
	return api.OK
}

// named asks what an expression names by itself, without its Args.
func (s scope) named(x api.Expr) api.Errno {
	switch x.Kind {
	case api.Var:
		if !s.variable(x.S) {
			return api.ErrNone
		}
	case api.Elem:
		if !s.array(x.S) {
			return api.ErrNone
		}
	case api.Ask:
		f, ok := s.function(x.Of, x.S)
		if !ok {
			return api.ErrNone
		}
		if len(f.Params) != len(x.Args) {
			return api.ErrCount
		}
	}
	return api.OK
}
