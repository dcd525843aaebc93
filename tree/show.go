package tree

import (
	"strconv"
	"strings"

	"barbican/api"
)

// writer of units that may be.
type writer struct{ text strings.Builder }

func (w *writer) put(l ...string) {
	for _, s := range l {
		w.text.WriteString(s)
	}
}

func (w *writer) unit(u api.Unit) {
	w.put("unit ", u.Name, "\n")
	for _, name := range u.Vars {
		w.put("var ", name, "\n")
	}
	for _, a := range u.Arrays {
		w.put("array ", a.Name, " ", strconv.Itoa(a.Size), "\n")
	}
	for _, f := range u.Funcs {
		w.function(f)
	}
}

func (w *writer) function(f api.Func) {
	how := "func "
	if f.Open {
		how = "open "
	}
	w.put(how, f.Name, "(", strings.Join(f.Params, ", "), ") ")
	w.body(f.Body, 0)
	w.put("\n")
}

// body of what has so many blanks ahead.
func (w *writer) body(l []api.Stmt, blanks int) {
	w.put("{\n")
	for _, s := range l {
		w.put(strings.Repeat(" ", blanks+1))
		w.statement(s, blanks+1)
		w.put("\n")
	}
	w.put(strings.Repeat(" ", blanks), "}")
}

func (w *writer) statement(s api.Stmt, blanks int) {
	switch s.Kind {
	case api.Set:
		w.ended(s.S+" = ", s.Exprs[0])
	case api.SetAt:
		w.put(s.S, "[")
		w.expression(s.Exprs[0])
		w.ended("] = ", s.Exprs[1])
	case api.If:
		w.asked("if ", s, blanks)
		w.put(" else ")
		w.body(s.Else, blanks)
	case api.While:
		w.asked("while ", s, blanks)
	case api.Return:
		w.ended("return ", s.Exprs[0])
	case api.Say:
		w.ended("say ", s.Exprs[0])
	}
}

// ended: the last expression of a statement without a body.
func (w *writer) ended(ahead string, x api.Expr) {
	w.put(ahead)
	w.expression(x)
	w.put(";")
}

// asked: the expression that a body hangs on, and that body.
func (w *writer) asked(ahead string, s api.Stmt, blanks int) {
	w.put(ahead)
	w.expression(s.Exprs[0])
	w.put(" ")
	w.body(s.Body, blanks)
}

func (w *writer) expression(x api.Expr) {
	switch x.Kind {
	case api.Number:
		w.put(strconv.Itoa(x.N))
	case api.Var:
		w.put(x.S)
	case api.Elem:
		w.put(x.S)
		w.expressions("[", "", x.Args, "]")
	case api.Ask:
		if x.Of != "" {
			w.put(x.Of, ".")
		}
		w.put(x.S)
		w.expressions("(", ", ", x.Args, ")")
	case api.Two:
		w.expressions("(", " "+signs[x.N]+" ", x.Args, ")")
	}
}

// expressions with something ahead of them all, between them, and behind.
func (w *writer) expressions(ahead, between string, l []api.Expr, behind string) {
	w.put(ahead)
	for i, x := range l {
		if i > 0 {
			w.put(between)
		}
		w.expression(x)
	}
	w.put(behind)
}
