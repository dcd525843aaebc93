package tree

import (
	"barbican/api"
	"barbican/word"
)

// checkHead asks for all but the functions themselves.
func checkHead(u api.Unit) api.Errno {
	if !Ident(u.Name) {
		return api.ErrForm
	}
	if len(u.Vars) > api.MaxVars || len(u.Arrays) > api.MaxArrays || len(u.Funcs) > api.MaxFuncs {
		return api.ErrSize
	}
	if !idents(u.Vars) {
		return api.ErrForm
	}
	for _, a := range u.Arrays {
		if !Ident(a.Name) {
			return api.ErrForm
		}
		if a.Size < 1 || a.Size > api.MaxArray {
			return api.ErrRange
		}
	}
	return api.OK
}

func idents(l []string) bool {
	for _, s := range l {
		if !Ident(s) {
			return false
		}
	}
	return true
}

func checkFunc(f api.Func) api.Errno {
	if !Ident(f.Name) {
		return api.ErrForm
	}
	if len(f.Params) > api.MaxParams {
		return api.ErrSize
	}
	if !idents(f.Params) {
		return api.ErrForm
	}
	return checkStmts(f.Body, 1)
}

// checkStmts at a depth, which is asked of the list, so that one without statements may be too deep as well: every statement has such lists.
func checkStmts(l []api.Stmt, depth int) api.Errno {
	if depth > api.MaxNest {
		return api.ErrSize
	}
	for _, s := range l {
		if e := checkStmt(s, depth); e != api.OK {
			return e
		}
	}
	return api.OK
}

func checkStmt(s api.Stmt, depth int) api.Errno {
	if s.Kind < api.Set || s.Kind > api.Say {
		return api.ErrKind
	}
	if !stmtInForm(s) {
		return api.ErrForm
	}
	for _, x := range s.Exprs {
		if e := checkExpr(x, 1); e != api.OK {
			return e
		}
	}
	if e := checkStmts(s.Body, depth+1); e != api.OK {
		return e
	}
	return checkStmts(s.Else, depth+1)
}

// stmtInForm: it has what its kind has, and nothing else.
func stmtInForm(s api.Stmt) bool {
	named, exprs, mayBody := false, 1, false
	switch s.Kind {
	case api.Set:
		named = true
	case api.SetAt:
		named, exprs = true, 2
	case api.If, api.While:
		mayBody = true
	}
	if named && !Ident(s.S) || !named && s.S != "" {
		return false
	}
	return len(s.Exprs) == exprs && (mayBody || len(s.Body) == 0) && (s.Kind == api.If || len(s.Else) == 0)
}

// checkExpr at a depth.
func checkExpr(x api.Expr, depth int) api.Errno {
	switch {
	case depth > api.MaxNest:
		return api.ErrSize
	case x.Kind < api.Number || x.Kind > api.Two:
		return api.ErrKind
	case len(x.Args) > api.MaxParams:
		return api.ErrSize
	case !exprInForm(x):
		return api.ErrForm
	case x.Kind == api.Number && !word.Is(x.N), x.Kind == api.Two && !operation(x.N):
		return api.ErrRange
	}
	for _, arg := range x.Args {
		if e := checkExpr(arg, depth+1); e != api.OK {
			return e
		}
	}
	return api.OK
}

// exprInForm: it has what its kind has, and nothing else.
func exprInForm(x api.Expr) bool {
	switch x.Kind {
	case api.Number:
		return x.Of == "" && x.S == "" && len(x.Args) == 0
	case api.Var:
		return x.N == 0 && x.Of == "" && Ident(x.S) && len(x.Args) == 0
	case api.Elem:
		return x.N == 0 && x.Of == "" && Ident(x.S) && len(x.Args) == 1
	case api.Ask:
		return x.N == 0 && (x.Of == "" || Ident(x.Of)) && Ident(x.S)
	default: // checkExpr lets nothing through but kinds: this is Two.
		return x.Of == "" && x.S == "" && len(x.Args) == 2
	}
}

// operation: word knows which numbers are one.
func operation(n int) bool {
	_, e := word.Do(n, 0, 0)
	return e == api.OK
}

// countOf the statements of functions, those within others too.
func countOf(l []api.Func) int {
	n := 0
	for _, f := range l {
		n += countStmts(f.Body)
	}
	return n
}

func countStmts(l []api.Stmt) int {
	n := len(l)
	for _, s := range l {
		n += countStmts(s.Body) + countStmts(s.Else)
	}
	return n
}
