package tree

import (
	"fmt"
	"strings"
	"testing"

	"barbican/api"
)

// Kinds and errors stand as numbers here, so that no constant stands between the document and them.

var keywords = strings.Fields("unit var array func open if else while return say")

func num(n int) api.Expr      { return api.Expr{Kind: 1, N: n} }
func named(s string) api.Expr { return api.Expr{Kind: 2, S: s} }
func elem(s string, at api.Expr) api.Expr {
	return api.Expr{Kind: 3, S: s, Args: []api.Expr{at}}
}
func ask(of, s string, args ...api.Expr) api.Expr {
	return api.Expr{Kind: 4, Of: of, S: s, Args: args}
}
func two(op int, a, b api.Expr) api.Expr {
	return api.Expr{Kind: 5, N: op, Args: []api.Expr{a, b}}
}

func set(s string, x api.Expr) api.Stmt { return api.Stmt{Kind: 1, S: s, Exprs: []api.Expr{x}} }
func setAt(s string, at, x api.Expr) api.Stmt {
	return api.Stmt{Kind: 2, S: s, Exprs: []api.Expr{at, x}}
}
func iff(x api.Expr, body, other []api.Stmt) api.Stmt {
	return api.Stmt{Kind: 3, Exprs: []api.Expr{x}, Body: body, Else: other}
}
func while(x api.Expr, body ...api.Stmt) api.Stmt {
	return api.Stmt{Kind: 4, Exprs: []api.Expr{x}, Body: body}
}
func ret(x api.Expr) api.Stmt { return api.Stmt{Kind: 5, Exprs: []api.Expr{x}} }
func say(x api.Expr) api.Stmt { return api.Stmt{Kind: 6, Exprs: []api.Expr{x}} }

// unitOf statements: one function that has them.
func unitOf(l ...api.Stmt) api.Unit {
	return api.Unit{Name: "one", Funcs: []api.Func{{Name: "f", Body: l}}}
}

// told: a unit as a text in which lists without elements look the same, whether they are nil or not.
func told(u api.Unit) string { return fmt.Sprintf("%+v", u) }

func checked(t *testing.T, u api.Unit, want api.Errno) {
	t.Helper()
	if got := Check(u); got != want {
		t.Errorf("Check(%.300s) = %d; want %d", told(u), int(got), int(want))
	}
	s, e := Show(u)
	if e != want || (s == "") != (want != 0) {
		t.Errorf("Show(%.300s) = %.300q, %d; want the error %d", told(u), s, int(e), int(want))
	}
}

func shown(t *testing.T, u api.Unit, want string) {
	t.Helper()
	if got, e := Show(u); e != 0 || got != want {
		t.Errorf("Show(%.300s) = %q, %d; want %q, 0", told(u), got, int(e), want)
	}
}

func reads(t *testing.T, s string, want api.Unit) {
	t.Helper()
	if got, e := Read(s); e != 0 || told(got) != told(want) {
		t.Errorf("Read(%.300q) = %.300s, %d; want %.300s, 0", s, told(got), int(e), told(want))
	}
}

func refused(t *testing.T, s string, want api.Errno) {
	t.Helper()
	if got, e := Read(s); e != want || told(got) != told(api.Unit{}) {
		t.Errorf("Read(%.300q) = %.300s, %d; want nothing, %d", s, told(got), int(e), int(want))
	}
}

// P6.1
func TestIdent(t *testing.T) {
	for _, s := range []string{"a", "z", "x1", "f", "abcdefgh", "a1234567", "units", "uni", "iff", "i", "elsee", "els", "vars", "va", "says", "sa", "opens", "returns", "while1", "arrays", "functio", "func2", "ifelse"} {
		if !Ident(s) {
			t.Errorf("Ident(%q) = false", s)
		}
	}
	for _, s := range append([]string{"", "0", "1a", "abcdefghi", "A", "If", "UNIT", "a_", " a", "a ", " if", "a\n", "é", "a\x00", "+", "(", "a.b", strings.Repeat("a", 1<<20)}, keywords...) {
		if Ident(s) {
			t.Errorf("Ident(%.80q) = true", s)
		}
	}
	if len(keywords) != 10 {
		t.Errorf("%d keywords", len(keywords))
	}
}

// P6.4
func TestShow(t *testing.T) {
	shown(t, api.Unit{Name: "one"}, "unit one\n")
	shown(t, api.Unit{Name: "one", Vars: []string{}, Arrays: []api.Array{}, Funcs: []api.Func{}}, "unit one\n")
	shown(t, api.Unit{Name: "u", Vars: []string{"x", "y"}, Arrays: []api.Array{{Name: "a", Size: 1}, {Name: "b", Size: 10}}},
		"unit u\nvar x\nvar y\narray a 1\narray b 10\n")
	shown(t, api.Unit{Name: "u", Funcs: []api.Func{{Name: "f"}, {Name: "g", Open: true, Params: []string{"p"}}, {Name: "h", Params: []string{"p", "q", "r", "s"}}}},
		"unit u\nfunc f() {\n}\nopen g(p) {\n}\nfunc h(p, q, r, s) {\n}\n")
	shown(t, api.Unit{Name: "one", Vars: []string{"x"}, Funcs: []api.Func{{Name: "f", Open: true, Params: []string{"p"}, Body: []api.Stmt{set("x", two(1, named("x"), named("p"))), ret(named("x"))}}}},
		"unit one\nvar x\nopen f(p) {\n x = (x + p);\n return x;\n}\n")
}

// P6.4
func TestShowStatements(t *testing.T) {
	for _, c := range []struct {
		s    api.Stmt
		want string
	}{
		{set("x", num(1)), " x = 1;\n"},
		{setAt("a", num(0), named("y")), " a[0] = y;\n"},
		{setAt("a", elem("a", num(2)), ask("", "f")), " a[a[2]] = f();\n"},
		{ret(num(0)), " return 0;\n"},
		{say(num(65535)), " say 65535;\n"},
		{iff(num(1), nil, nil), " if 1 {\n } else {\n }\n"},
		{iff(named("x"), []api.Stmt{say(num(1))}, nil), " if x {\n  say 1;\n } else {\n }\n"},
		{iff(named("x"), nil, []api.Stmt{say(num(2)), ret(num(3))}), " if x {\n } else {\n  say 2;\n  return 3;\n }\n"},
		{while(num(0)), " while 0 {\n }\n"},
		{while(two(7, named("y"), num(5)), say(named("y")), while(num(1), iff(num(2), []api.Stmt{say(num(3))}, []api.Stmt{while(num(4))}))),
			" while (y < 5) {\n  say y;\n  while 1 {\n   if 2 {\n    say 3;\n   } else {\n    while 4 {\n    }\n   }\n  }\n }\n"},
	} {
		shown(t, unitOf(c.s), "unit one\nfunc f() {\n"+c.want+"}\n")
		shown(t, unitOf(c.s, c.s), "unit one\nfunc f() {\n"+c.want+c.want+"}\n")
	}
}

// P6.4
func TestShowExpressions(t *testing.T) {
	cases := []struct {
		x    api.Expr
		want string
	}{
		{num(0), "0"}, {num(65535), "65535"}, {num(10), "10"}, {named("x"), "x"}, {named("abcdefgh"), "abcdefgh"},
		{elem("a", num(3)), "a[3]"}, {elem("a", elem("b", named("i"))), "a[b[i]]"},
		{ask("", "f"), "f()"}, {ask("", "f", num(1)), "f(1)"}, {ask("", "f", num(1), named("x"), num(2), num(3)), "f(1, x, 2, 3)"},
		{ask("one", "f"), "one.f()"}, {ask("two", "f", num(1), num(2)), "two.f(1, 2)"},
		{ask("u", "f", ask("", "g", ask("v", "h")), two(1, num(1), num(2))), "u.f(g(v.h()), (1 + 2))"},
		{two(2, two(3, num(1), num(2)), two(1, num(3), num(4))), "((1 * 2) - (3 + 4))"},
	}
	for i, sign := range strings.Fields("+ - * & | ^ < == << >>") {
		cases = append(cases, struct {
			x    api.Expr
			want string
		}{two(i+1, named("x"), num(7)), "(x " + sign + " 7)"})
	}
	for _, c := range cases {
		shown(t, unitOf(say(c.x)), "unit one\nfunc f() {\n say "+c.want+";\n}\n")
		reads(t, "unit one func f() { say "+c.want+"; }", unitOf(say(c.x)))
		reads(t, "unit one func f(){say "+strings.ReplaceAll(c.want, " ", "")+";}", unitOf(say(c.x)))
		reads(t, "unit one func f() { a["+c.want+"] = "+c.want+"; }", unitOf(setAt("a", c.x, c.x)))
	}
}

// P6.4: as deep as may be, each one blank further in; and texts that Read would refuse for their length.
func TestShowDeepAndLong(t *testing.T) {
	l, text := []api.Stmt{say(num(1))}, strings.Repeat(" ", 11)+"say 1;\n"
	for n := 10; n >= 1; n-- {
		gap := strings.Repeat(" ", n)
		l, text = []api.Stmt{while(num(n), l...)}, gap+"while "+fmt.Sprint(n)+" {\n"+text+gap+"}\n"
	}
	shown(t, unitOf(l...), "unit one\nfunc f() {\n"+text+"}\n")

	long := make([]api.Stmt, 300)
	for i := range long {
		long[i] = set("abcdefgh", num(10000+i))
	}
	s, e := Show(unitOf(long...))
	if e != 0 || len(s) != len("unit one\nfunc f() {\n}\n")+300*len(" abcdefgh = 10000;\n") {
		t.Errorf("%d bytes, %d", len(s), int(e))
	}
	refused(t, s, 1)
}
