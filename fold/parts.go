package fold

import (
	"strings"

	"barbican/api"
	"barbican/word"
)

// each thing of a list, made into another one, in a list without spare room.
func each[T any](l []T, do func(T) T) []T {
	made := make([]T, len(l))
	for i, x := range l {
		made[i] = do(x)
	}
	return made
}

// All texts are cloned, and all lists made by each, so that what is answered shares no memory with the program.

func foldUnit(u api.Unit) api.Unit {
	return api.Unit{
		Name:   strings.Clone(u.Name),
		Vars:   each(u.Vars, strings.Clone),
		Arrays: each(u.Arrays, copyArray),
		Funcs:  each(u.Funcs, foldFunc),
	}
}

func copyArray(a api.Array) api.Array {
	return api.Array{Name: strings.Clone(a.Name), Size: a.Size}
}

func foldFunc(f api.Func) api.Func {
	return api.Func{
		Name:   strings.Clone(f.Name),
		Open:   f.Open,
		Params: each(f.Params, strings.Clone),
		Body:   each(f.Body, foldStmt),
	}
}

func foldStmt(s api.Stmt) api.Stmt {
	return api.Stmt{
		Kind:  s.Kind,
		S:     strings.Clone(s.S),
		Exprs: each(s.Exprs, foldExpr),
		Body:  each(s.Body, foldStmt),
		Else:  each(s.Else, foldStmt),
	}
}

// foldExpr folds the Args ahead of the expression itself, as an operation may be one of two numbers only then.
func foldExpr(x api.Expr) api.Expr {
	args := each(x.Args, foldExpr)
	if x.Kind == api.Two && isNumber(args[0]) && isNumber(args[1]) {
		// No error: the program was checked, so this is an operation of words.
		n, _ := word.Do(x.N, args[0].N, args[1].N)
		return api.Expr{Kind: api.Number, N: n}
	}
	return api.Expr{Kind: x.Kind, N: x.N, Of: strings.Clone(x.Of), S: strings.Clone(x.S), Args: args}
}

func isNumber(x api.Expr) bool { return x.Kind == api.Number }
