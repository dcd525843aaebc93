package gen

import (
	"strings"
	"testing"

	"barbican/api"
	"barbican/names"
	"barbican/tree"
)

// sizeOf a program: how many statements and expressions it has.
func sizeOf(p []api.Unit) int {
	n := 0
	for _, u := range p {
		for _, f := range u.Funcs {
			n += sizeOfStmts(f.Body)
		}
	}
	return n
}

func sizeOfStmts(l []api.Stmt) int {
	n := len(l)
	for _, s := range l {
		n += sizeOfExprs(s.Exprs) + sizeOfStmts(s.Body) + sizeOfStmts(s.Else)
	}
	return n
}

func sizeOfExprs(l []api.Expr) int {
	n := len(l)
	for _, x := range l {
		n += sizeOfExprs(x.Args)
	}
	return n
}

// within so many others: a text that stands in another one, in place of its ?.
func within(outer, inner string, times int) string {
	for range times {
		inner = strings.Replace(outer, "?", inner, 1)
	}
	return inner
}

// P10.1: no unit of a program whose size is 100 is refused, however much code its things need.
func TestSizeOfAHundred(t *testing.T) {
	elems := within("a[?]", "p", 11)
	for _, body := range []string{
		strings.Repeat("a[p] = p; ", 33),
		strings.Repeat("a[a[p]] = a[p]; ", 19) + "x = x; ",
		strings.Repeat("a["+within("a[?]", "p", 10)+"] = "+elems+"; ", 4),
		strings.Repeat("say "+elems+"; ", 7) + "x = x; x = (x + x); return 0; ",
		strings.Repeat("x = x; ", 50),
		strings.Repeat("if x { } else { x = x; } ", 25),
		strings.Repeat("while a[p] { a[p] = x; } ", 16) + "p = x; ",
		"while x { " + strings.Repeat("x = g(p, p, p, a[p]); ", 14) + "}",
	} {
		c := of(t, "one", "f", []int{1}, "unit one var x array a 3 open f(p) { "+body+" } func g(p, q, r, s) { }"+
			" open h1() { } open h2() { } open h3() { } open h4() { } open h5() { } open h6() { }")
		if n := sizeOf(c.p); n > 100 || n < 94 {
			t.Errorf("%q: its size is %d", body, n)
		}
		c.comes(t, c.called(t, 0, api.MaxFuel).String())
	}
}

// deepest: the text that stands in a unit, with an expression within so many others as may be.
func deepest(unit func(times int) string) string {
	times := api.MaxNest
	for times > 0 {
		if _, e := tree.Read(unit(times)); e == api.OK {
			break
		}
		times--
	}
	return unit(times)
}

// P10.1: the expressions that keep most words waiting fit into a frame, in whatever statement they stand.
func TestWordsOfAFrame(t *testing.T) {
	for _, inner := range []string{"8", "p", "x", "e()", "f(8, 8, 8, 8)"} {
		for _, last := range []string{"?", "(7 - ?)", "a[?]", "a[(? & 3)]", "one.f(7, 6, 5, ?)"} {
			for _, s := range []string{"x = ?;", "p = ?;", "a[p] = ?;", "a[?] = p;", "if ? { say 1; }", "while ? { return 9; }", "return ?;", "say ?;", "a[?] = (6 + ?);"} {
				c := of(t, "one", "g", []int{2}, deepest(func(times int) string {
					x := within("f(1, 2, 3, ?)", strings.Replace(last, "?", inner, 1), times)
					return "unit one var x array a 4 open f(p, q, r, s) { return (p + (q + (r + s))); } func e() { return 5; } open g(p) { " + strings.ReplaceAll(s, "?", x) + " }"
				}))
				c.comes(t, c.called(t, 0, api.MaxFuel).String())
			}
		}
	}
}

// P10.1: words that code needs of a frame, by the place where most of them wait.
func TestMostWords(t *testing.T) {
	for body, want := range map[string]int{
		"":                               1,
		"say 1;":                         1,
		"say x;":                         1,
		"p = 1;":                         1,
		"p = (1 + 2);":                   2,
		"x = 1;":                         2,
		"x = (1 + 2);":                   3,
		"x = a[1];":                      4,
		"a[0] = 1;":                      3,
		"a[0] = (1 + (2 + 3));":          4,
		"a[0] = a[1];":                   4,
		"say 1; say (1 + 2); say 1;":     2,
		"return f(1, 2, 3, 4);":          4,
		"return one.f(1, 2, 3, 4);":      4,
		"return f(1, 2, 3, f(1,2,3,4));": 7,
		"if 1 { say 1; } else { say 2; } while 1 { x = 1; } return 1; x = 2;": 2,
	} {
		p := program(t, "unit one var x array a 3 open f(p, q, r, s) { "+body+" }")
		m := maker{units: p, unit: p[0]}
		m.funcs()
		if m.most != want || m.words != 0 || m.tooMuch() {
			t.Errorf("%q: %d words, at the end %d; want %d, 0", body, m.most, m.words, want)
		}
	}
	x := within("f(1, 2, 3, ?)", "0", 11)
	p := program(t, "unit one var x array a 3 open f(p, q, r, s) { x = "+x+"; a[0] = "+x+"; }")
	m := maker{units: p, unit: p[0]}
	if m.funcs(); m.most != 35 {
		t.Errorf("the most words that any frame may need are %d", m.most)
	}
}

// P10.1: more than MaxCode instructions, or MaxStack words. Units that may be need fewer words, so that bound is asked for by itself.
func TestTooMuch(t *testing.T) {
	for _, c := range []struct {
		code, most int
		want       bool
	}{
		{0, 0, false},
		{api.MaxCode, api.MaxStack, false},
		{api.MaxCode + 1, 1, true},
		{1, api.MaxStack + 1, true},
		{api.MaxCode + 1, api.MaxStack + 1, true},
	} {
		w := writer{code: make([]api.Instr, c.code), most: c.most}
		if got := w.tooMuch(); got != c.want {
			t.Errorf("%d instructions, %d words: %v", c.code, c.most, got)
		}
	}
}

// P10.1: as many instructions as may be; what jumps or calls over all of them comes where it should.
func TestMostCode(t *testing.T) {
	filled := strings.Repeat("p=(p+q);", 291) // four instructions each
	for _, body := range []string{
		"if r { " + filled + " } else { a[s] = g(p); a[r] = x; }",
		"while (s < 2) { if r { " + filled + " } s = (s + g(1)); } say 1; say 1; say 1; return a[s];",
		"if r { " + filled + " } s = (s + g(1)); s = s; say a[s]; x = 1; x = 2; p = x;",
	} {
		source := "unit one var x array a 3 open f(p, q, r, s) { " + body + " } func g(p) { say p; return p; }"
		if code, _ := made(t, program(t, source), 0, 0); len(code) != api.MaxCode {
			t.Errorf("%q has %d instructions", body, len(code))
		}
		for _, args := range [][]int{{1, 2, 0, 0}, {1, 2, 1, 1}, {1, 2, 1, 2}, {1, 2, 0, 3}} {
			c := of(t, "one", "f", args, source)
			c.comes(t, c.called(t, 0, api.MaxFuel).String())
		}
	}
}

// P10.1: one instruction more than may be, and a few more: the last one, the trap, counts too.
func TestMoreThanMostCode(t *testing.T) {
	filled := strings.Repeat("p=(p+q);", 291)
	for _, body := range []string{
		"if r { " + filled + " } else { a[s] = g(p); a[r] = (s + s); }",
		"while (s < 2) { if r { " + filled + " } s = (s + g(1)); } say 1; say 1; say x; return a[s];",
		"if r { " + filled + " } s = (s + g(1)); s = s; say a[s]; x = 1; x = 2; say (x + 1);",
		"if r { " + filled + " } s = (s + g(1)); s = s; say a[s]; x = 1; x = 2; x = x;",
		"if r { " + filled + " } s = (s + g(1)); s = s; say a[s]; x = 1; x = a[2];",
	} {
		source := "unit one var x array a 3 open f(p, q, r, s) { " + body + " } func g(p) { say p; return p; }"
		refusesMuch(t, program(t, source))
	}
}

// P10.1: only what the unit itself needs counts.
func TestMuchInAnotherUnit(t *testing.T) {
	p := program(t, "unit one open f() { return 1; }", "unit two array a 3 open f() { "+strings.Repeat("a[1] = a[2]; ", 120)+"}", "unit tri")
	made(t, p, 0, 0)
	refuses(t, p, 1, 0, api.ErrSize)
	made(t, p, 2, 0)
}

// tree as wide and as deep as may be.
func wideTree() api.Expr {
	x := api.Expr{Kind: api.Number, N: 1}
	for range api.MaxNest - 1 {
		x = api.Expr{Kind: api.Ask, S: "f", Args: []api.Expr{x, x, x, x}}
	}
	return x
}

// P10.1: what needs far too much is refused all the same, soon, in whatever function and statement it stands.
func TestFarTooMuch(t *testing.T) {
	one := []api.Expr{{Kind: api.Number, N: 1}}
	body := []api.Stmt{{Kind: api.Say, Exprs: []api.Expr{wideTree()}}}
	for range api.MaxNest - 3 {
		body = []api.Stmt{{Kind: api.If, Exprs: one, Body: body, Else: body[1:]}, {Kind: api.While, Exprs: one}, {Kind: api.Return, Exprs: one}}
	}
	for place := range 3 {
		u := api.Unit{Name: "one"}
		for _, s := range []string{"f", "g", "h"} {
			u.Funcs = append(u.Funcs, api.Func{Name: s, Params: []string{"p", "q", "r", "s"}})
		}
		u.Funcs[place].Body = body
		refusesMuch(t, []api.Unit{u})
	}
}

// P10.1: as many statements as may be, all of them the same one, are too much if each needs more than three instructions.
func TestMostStatements(t *testing.T) {
	for s, want := range map[string]bool{"p=q;": true, "x=q;": true, "x=x;": false, "say a[0];": false} {
		p := program(t, "unit one var x array a 1 open f(p, q) { "+strings.Repeat(s, api.MaxStmts)+" }")
		if want {
			made(t, p, 0, 0)
		} else {
			refusesMuch(t, p)
		}
	}
}

// refusesMuch: what may be for names' Check is too much. The program is not told, as it is too great for that.
func refusesMuch(t *testing.T, p []api.Unit) {
	t.Helper()
	if e := names.Check(p); e != api.OK {
		t.Errorf("names refuses it with %d", int(e))
	}
	if code, begins, e := Unit(p, 0, 0); e != api.ErrSize || len(code) != 0 || len(begins) != 0 {
		t.Errorf("%d, %d instructions, %v", int(e), len(code), begins)
	}
}
