package link

import (
	"fmt"
	"slices"
	"strings"
	"testing"

	"barbican/api"
	"barbican/eval"
	"barbican/gen"
	"barbican/mach"
	"barbican/mem"
	"barbican/names"
	"barbican/tree"
)

// program of sources: a unit each.
func program(t *testing.T, sources ...string) []api.Unit {
	t.Helper()
	var p []api.Unit
	for _, s := range sources {
		u, e := tree.Read(s)
		if e != api.OK {
			t.Fatalf("%q is no unit: %v", s, e)
		}
		p = append(p, u)
	}
	return p
}

// told: anything as a text in which empty lists are the same, be they nil or not.
func told(x any) string { return strings.ReplaceAll(fmt.Sprint(x), "<nil>", "[]") }

// linked: the image of a program that may be, which keeps what holds of all of them.
func linked(t *testing.T, p []api.Unit) api.Image {
	t.Helper()
	was := told(p)
	m, e := Program(p)
	if e != api.OK {
		t.Fatalf("Program(%s) is refused with %d", was, int(e))
	}
	if told(p) != was {
		t.Fatalf("Program changed %s", was)
	}
	if e := mem.Check(m); e != api.OK {
		t.Fatalf("Program(%s) may not be: %d: %v", was, int(e), m)
	}
	return m
}

// outline of an image: of each part its words, and how many words each of its entries takes.
func outline(m api.Image) string {
	var l []string
	for _, x := range m.Parts {
		var takes []int
		for _, y := range x.Entries {
			takes = append(takes, y.Params)
		}
		l = append(l, fmt.Sprintf("%d-%d %v", x.From, x.To, takes))
	}
	return strings.Join(l, " ")
}

// fresh cells of a program.
func fresh(t *testing.T, p []api.Unit) []api.Cells {
	t.Helper()
	l, e := eval.Fresh(p)
	if e != api.OK {
		t.Fatalf("%v may not be: %d", p, int(e))
	}
	return l
}

// words of cells, by Data, which keeps what holds of all calls.
func words(t *testing.T, p []api.Unit, l []api.Cells) []int {
	t.Helper()
	was := told([]any{p, l})
	data, e := Data(p, l)
	if e != api.OK {
		t.Fatalf("Data(%v, %v) is refused with %d", p, l, int(e))
	}
	if told([]any{p, l}) != was {
		t.Fatalf("Data changed %s", was)
	}
	return data
}

// open functions of a unit.
func open(u api.Unit) []api.Func {
	return slices.DeleteFunc(slices.Clone(u.Funcs), func(f api.Func) bool { return !f.Open })
}

// does: a run of an entry of the image does what a call of that function does; both end so, and tell, and leave words, as is wanted. It answers the cells then.
func does(t *testing.T, p []api.Unit, l []api.Cells, unit, entry int, args []int, want string) []api.Cells {
	t.Helper()
	f := open(p[unit])[entry]
	called, next, e := eval.Call(p, l, p[unit].Name, f.Name, args, 0, api.MaxFuel)
	if e != api.OK {
		t.Fatalf("Call of %q %q with %v is refused with %d", p[unit].Name, f.Name, args, int(e))
	}
	if got := told([]any{called.End, called.Value, called.Told, words(t, p, next)}); got != want {
		t.Errorf("Call of %q %q with %v is %s, want %s", p[unit].Name, f.Name, args, got, want)
	}
	o, e := mach.Run(linked(t, p), words(t, p, l), unit, entry, args, api.MaxFuel)
	if got := told([]any{o.End, o.Value, o.Told, o.Data}); e != api.OK || got != want {
		t.Errorf("Run of %q %q with %v is %s, want %s; refused with %d", p[unit].Name, f.Name, args, got, want, int(e))
	}
	return next
}

func refuses(t *testing.T, p []api.Unit, want api.Errno) {
	t.Helper()
	was := told(p)
	m, e := Program(p)
	if e != want || len(m.Parts) != 0 {
		t.Errorf("Program(%s) is %v, %d; want none, %d", was, m, int(e), int(want))
	}
	if told(p) != was {
		t.Errorf("Program changed %s", was)
	}
}

// P11.1: a part a unit, in their order, its words behind those ahead, its entries the open functions, in their order.
func TestOutlines(t *testing.T) {
	for want, sources := range map[string][]string{
		"":        nil,
		"0-0 []":  {"unit one"},
		"0-1 [1]": {"unit one var x open f(p) { x = (x + p); return x; }"},
		"0-6 [] 6-6 [0] 6-7 []": {
			"unit c var x var y array a 3 array b 1 func f() { }",
			"unit b open f() { }",
			"unit a var x",
		},
		"0-1 [3 0 2]": {
			"unit one var x func a(p) { } open b(p, q, r) { } open c() { } func d(p, q, r, s) { } open e(p, q) { return 1; } func f() { }",
		},
		"0-0 [] 0-10 [4] 10-12 [1 2]": {
			"unit one",
			"unit two array a 10 open g(p, q, r, s) { return tri.f(p); } func f(p, q) { }",
			"unit tri var x var y func g() { } open f(p) { } open h(p, q) { return two.g(p, p, q, q); }",
		},
		"0-1 [0 1 2 3 4 0 1 2]": {
			"unit one var x open a() { } open b(p) { } open c(p, q) { } open d(p, q, r) { } open e(p, q, r, s) { } open f() { } open g(p) { } open h(p, q) { }",
		},
		"0-38 [] 38-76 [] 76-114 [] 114-152 [] 152-190 []": {most("a"), most("b"), most("c"), most("d"), most("e")},
	} {
		if got := outline(linked(t, program(t, sources...))); got != want {
			t.Errorf("%q: %s, want %s", sources, got, want)
		}
	}
}

// most words that a unit may have.
func most(name string) string {
	s := "unit " + name
	for _, v := range "abcdefgh" {
		s += " var " + string(v)
	}
	return s + " array x 10 array y 10 array z 10"
}

// P11.1: a unit without functions has no code.
func TestNoCode(t *testing.T) {
	for _, x := range linked(t, program(t, "unit one", most("two"))).Parts {
		if len(x.Code) != 0 {
			t.Errorf("%v", x)
		}
	}
}

// P11.1: runs do what calls do, over the words of all parts, one behind the other.
func TestRuns(t *testing.T) {
	p := program(t,
		"unit a var x array l 2 func h(p) { l[p] = (x << 4); return l[p]; } open f(p) { x = (x + p); say x; return x; } open g(p, q) { return (h(p) + b.f(q)); }",
		"unit b open f(p) { say (3 * p); return (p == 5); }",
		"unit c var y array m 3 array n 1 open s(p, q, r) { m[p] = q; n[0] = a.f(r); y = (y | n[0]); return (m[0] - m[2]); } func z() { return 9; } open t() { return (z() + d.k(7)); }",
		"unit d var y func e(p) { return (p + p); } open k(p) { y = (y + e(p)); return a.g(1, 5); }",
	)
	l := fresh(t, p)
	l = does(t, p, l, 0, 0, []int{7}, "[1 7 [7] [7 0 0 0 0 0 0 0 0]]")
	l = does(t, p, l, 0, 0, []int{7}, "[1 14 [14] [14 0 0 0 0 0 0 0 0]]")
	l = does(t, p, l, 0, 1, []int{0, 5}, "[1 225 [15] [14 224 0 0 0 0 0 0 0]]")
	l = does(t, p, l, 0, 1, []int{2, 5}, "[2 0 [] [14 224 0 0 0 0 0 0 0]]")
	l = does(t, p, l, 1, 0, []int{65535}, "[1 0 [65533] [14 224 0 0 0 0 0 0 0]]")
	l = does(t, p, l, 2, 0, []int{2, 4, 1}, "[1 65532 [15] [15 224 0 15 0 0 4 15 0]]")
	l = does(t, p, l, 2, 1, nil, "[1 250 [15] [15 224 240 15 0 0 4 15 14]]")
	l = does(t, p, l, 3, 0, []int{65535}, "[1 241 [15] [15 224 240 15 0 0 4 15 12]]")
	does(t, p, l, 2, 0, []int{3, 4, 1}, "[2 0 [] [15 224 240 15 0 0 4 15 12]]")
}

// P11.1: a run ends as a call does, in whatever way.
func TestEnds(t *testing.T) {
	p := program(t,
		"unit a var x open e(p) { x = 4; return b.e(p); } open s(p) { x = 5; while p { } return 6; } open d(p) { x = p; return b.d((p + 1)); } open l(p) { while (p < 600) { p = (p + 1); x = p; say 1; } return 8; }",
		"unit b var y array m 2 open e(p) { y = 7; return m[p]; } open d(p) { y = p; if (p < 20) { return a.d(p); } return 3; }",
	)
	l := fresh(t, p)
	ones := strings.TrimSuffix(strings.Repeat("1 ", api.MaxOuts), " ")
	does(t, p, l, 0, 0, []int{1}, "[1 0 [] [4 7 0 0]]")
	does(t, p, l, 0, 0, []int{2}, "[2 0 [] [4 7 0 0]]")
	does(t, p, l, 0, 1, []int{0}, "[1 6 [] [5 0 0 0]]")
	does(t, p, l, 0, 1, []int{1}, "[3 0 [] [5 0 0 0]]")
	does(t, p, l, 0, 2, []int{10}, "[1 3 [] [19 20 0 0]]")
	does(t, p, l, 0, 2, []int{9}, "[5 0 [] [18 19 0 0]]")
	does(t, p, l, 0, 3, []int{100}, "[1 8 ["+ones+"] [600 0 0 0]]")
	does(t, p, l, 0, 3, []int{99}, "[6 0 ["+ones+"] [600 0 0 0]]")
}

// P11.1: what names' Check refuses, in whatever unit it stands.
func TestRefusesPrograms(t *testing.T) {
	for want, rests := range map[api.Errno][]string{
		api.ErrNone: {
			"func f() { y = 1; }", "func f() { return y; }", "func f() { return b[0]; }", "func f() { b[0] = 1; }",
			"func f() { return g(); }", "func f() { return two.g(); }", "func f() { return one.f(); }", "func f() { if 0 { say y; } }",
		},
		api.ErrTwice: {"array x 3", "array a 3", "func f() { } open f() { }", "func f(p, q, p) { }"},
		api.ErrCount: {"func f() { return f(1); }", "func f(p) { return f(); }", "func f(p) { return f(1, 2); }"},
	} {
		for _, rest := range rests {
			bad := "unit one var x array a 2 " + rest
			good := "unit two func f() { say 1; }"
			refuses(t, program(t, bad), want)
			refuses(t, program(t, good, bad), want)
			refuses(t, program(t, bad, good), want)
		}
	}
	refuses(t, make([]api.Unit, api.MaxParts+1), api.ErrSize)
	refuses(t, make([]api.Unit, 1), api.ErrForm)
	refuses(t, []api.Unit{{Name: "if"}}, api.ErrForm)
	refuses(t, []api.Unit{{Name: "one"}, {Name: "one"}}, api.ErrTwice)
	refuses(t, []api.Unit{{Name: "one", Arrays: []api.Array{{Name: "a", Size: 11}}}}, api.ErrRange)
	refuses(t, []api.Unit{{Name: "one", Funcs: []api.Func{{Name: "f", Body: make([]api.Stmt, 1)}}}}, api.ErrKind)
	refuses(t, []api.Unit{{Name: "one", Funcs: []api.Func{{Name: "f", Params: make([]string, 5)}}}}, api.ErrSize)
}

// much: a unit that needs more instructions than a part may have, whatever is folded.
func much(name string) string {
	return "unit " + name + " var x array a 3 open f(p) { " + strings.Repeat("a[a[p]] = (x + a[a[x]]); ", 100) + "}"
}

// P11.1: one unit that needs too much is enough, wherever it stands; what names' Check refuses is told ahead of it.
func TestRefusesMuch(t *testing.T) {
	small := "unit s var x open f(p) { return p; }"
	refuses(t, program(t, much("one")), api.ErrSize)
	refuses(t, program(t, small, much("one")), api.ErrSize)
	refuses(t, program(t, much("one"), small), api.ErrSize)
	refuses(t, program(t, small, "unit b", much("one"), "unit c"), api.ErrSize)
	refuses(t, program(t, much("one"), "unit two func f() { return y; }"), api.ErrNone)
	refuses(t, program(t, much("one"), "unit two var x array x 2"), api.ErrTwice)
	refuses(t, program(t, much("one"), "unit two func f(p) { return f(); }"), api.ErrCount)
	refuses(t, append(program(t, much("one")), api.Unit{Name: "if"}), api.ErrForm)
}

// P11.1: too much is what is needed: operations of two numbers need nothing.
func TestFoldedIsNotMuch(t *testing.T) {
	p := program(t, "unit one open f(p) { "+strings.Repeat("p=(p+((1+2)*(3+4)));", 140)+" return p; }")
	if _, _, e := gen.Unit(p, 0, 0); e != api.ErrSize {
		t.Errorf("without folding it is not too much: %d", int(e))
	}
	does(t, p, fresh(t, p), 0, 0, []int{9}, "[1 2949 [] []]")
}

// P11.1: five units, each with as much code as it may be that none of it is refused.
func TestManyStatements(t *testing.T) {
	var sources []string
	for i, s := range []string{"a", "b", "c", "d", "e"} {
		next := ""
		if i < 4 {
			next = "x = (x + " + string(rune('b'+i)) + ".f(p)); "
		}
		sources = append(sources, "unit "+s+" var x open f(p) { "+strings.Repeat("x = p; ", 298)+next+"return x; }")
	}
	p := program(t, sources...)
	does(t, p, fresh(t, p), 0, 0, []int{3}, "[1 15 [] [15 12 9 6 3]]")
	does(t, p, fresh(t, p), 3, 0, []int{3}, "[1 6 [] [0 0 0 6 3]]")
}

// sizeOf a program: how many statements and expressions it has.
func sizeOf(p []api.Unit) int {
	n := 0
	for _, u := range p {
		for _, f := range u.Funcs {
			n += sizeOfStmts(f.Body)
		}
	}
	return n
}

func sizeOfStmts(l []api.Stmt) int {
	n := len(l)
	for _, s := range l {
		n += sizeOfExprs(s.Exprs) + sizeOfStmts(s.Body) + sizeOfStmts(s.Else)
	}
	return n
}

func sizeOfExprs(l []api.Expr) int {
	n := len(l)
	for _, x := range l {
		n += sizeOfExprs(x.Args)
	}
	return n
}

// within so many others: a text that stands in another one, in place of its ?.
func within(outer, inner string, times int) string {
	for range times {
		inner = strings.Replace(outer, "?", inner, 1)
	}
	return inner
}

// P11.1: no program whose size is 100 is refused, however much code its things need.
func TestSizeOfAHundred(t *testing.T) {
	elems := within("a[?]", "p", 11)
	for _, body := range []string{
		strings.Repeat("a[p] = p; ", 33),
		strings.Repeat("a[a[p]] = a[p]; ", 19) + "x = x; ",
		strings.Repeat("a["+within("a[?]", "p", 10)+"] = "+elems+"; ", 4),
		strings.Repeat("say "+elems+"; ", 7) + "x = x; x = (x + x); return 0; ",
		strings.Repeat("x = x; ", 50),
		strings.Repeat("if x { } else { x = x; } ", 25),
		strings.Repeat("while a[p] { a[p] = x; } ", 16) + "p = x; ",
		"while x { " + strings.Repeat("x = g(p, p, p, a[p]); ", 14) + "}",
		strings.Repeat("x = b.h(p, a[p], p); ", 16),
	} {
		p := program(t, "unit b var x open h(p, q, r) { }", "unit one var x array a 3 open f(p) { "+body+" } func g(p, q, r, s) { } open h1() { } open h2() { }")
		if n := sizeOf(p); n > 100 || n < 94 {
			t.Errorf("%q: its size is %d", body, n)
		}
		m := linked(t, p)
		if names.Words(p[1]) != m.Parts[1].To-m.Parts[1].From {
			t.Errorf("%q: %v", body, m)
		}
	}
}
