package names

import (
	"fmt"
	"math"
	"slices"
	"strings"
	"testing"

	"barbican/api"
	"barbican/tree"
)

// program of sources: a unit each.
func program(t *testing.T, sources ...string) []api.Unit {
	t.Helper()
	var p []api.Unit
	for _, s := range sources {
		u, e := tree.Read(s)
		if e != api.OK {
			t.Fatalf("%q is no unit: %v", s, e)
		}
		p = append(p, u)
	}
	return p
}

func unitsNamed(l ...string) []api.Unit {
	var p []api.Unit
	for _, s := range l {
		p = append(p, api.Unit{Name: s})
	}
	return p
}

func funcsNamed(l ...string) api.Unit {
	var u api.Unit
	for _, s := range l {
		u.Funcs = append(u.Funcs, api.Func{Name: s})
	}
	return u
}

// P7.1
func TestPlaceOfUnitAndFunc(t *testing.T) {
	for _, c := range []struct {
		names []string
		name  string
		want  int
	}{
		{nil, "a", -1},
		{nil, "", -1},
		{[]string{"a"}, "a", 0},
		{[]string{"a"}, "b", -1},
		{[]string{"a", "b", "c"}, "a", 0},
		{[]string{"a", "b", "c"}, "b", 1},
		{[]string{"a", "b", "c"}, "c", 2},
		{[]string{"a", "b", "c"}, "d", -1},
		{[]string{"a", "b", "a", "b"}, "a", 0},
		{[]string{"a", "b", "a", "b"}, "b", 1},
		{[]string{"ab", "a", "abc"}, "a", 1},
		{[]string{"ab", "abc"}, "a", -1},
		{[]string{"ab", "abc"}, "abcd", -1},
		{[]string{"a", "b"}, "A", -1},
		{[]string{"a", "b"}, "a ", -1},
		{[]string{"a", "b"}, "", -1},
		// They need not be units or functions that may be.
		{[]string{"a", "", "b"}, "", 1},
		{[]string{"unit", "é", "\xff", "a\x00"}, "\xff", 2},
		{[]string{"unit", "é", "\xff", "a\x00"}, "a", -1},
		{[]string{"unit", "é", "\xff", "a\x00"}, "a\x00", 3},
		{[]string{"e\u0301", "\u00e9"}, "\u00e9", 1},
		{[]string{"a", "b", "c", "d", "e", "f", "g", "h", "i", "j"}, "j", 9},
	} {
		if got := Unit(unitsNamed(c.names...), c.name); got != c.want {
			t.Errorf("Unit(%q, %q): %d, want %d", c.names, c.name, got, c.want)
		}
		if got := Func(funcsNamed(c.names...), c.name); got != c.want {
			t.Errorf("Func(%q, %q): %d, want %d", c.names, c.name, got, c.want)
		}
	}
}

// P7.1: nothing but functions is a function, nothing but units a unit.
func TestPlaceOfOtherNames(t *testing.T) {
	p := program(t, "unit one var x array a 3 open f(p) { } func g(q) { }")
	for _, s := range []string{"one", "x", "a", "p", "q"} {
		if got := Func(p[0], s); got != -1 {
			t.Errorf("Func(%q): %d", s, got)
		}
	}
	for _, s := range []string{"x", "a", "f", "g", "p", "q"} {
		if got := Unit(p, s); got != -1 {
			t.Errorf("Unit(%q): %d", s, got)
		}
	}
	if f, g := Func(p[0], "f"), Func(p[0], "g"); f != 0 || g != 1 {
		t.Errorf("f, g: %d, %d", f, g)
	}
}

// P7.1
func TestWords(t *testing.T) {
	for _, c := range []struct {
		vars  int
		sizes []int
		want  int
	}{
		{0, nil, 0},
		{1, nil, 1},
		{8, nil, 8},
		{0, []int{1}, 1},
		{0, []int{10}, 10},
		{0, []int{2, 3, 4}, 9},
		{3, []int{2, 3, 4}, 12},
		{8, []int{10, 10, 10}, 38},
		// Units that may not be have words, too.
		{9, []int{11, 0, 5, 7}, 32},
		{2, []int{-5, 1}, -2},
		{1, []int{math.MaxInt - 1}, math.MaxInt},
		{0, []int{math.MinInt, math.MaxInt}, -1},
	} {
		u := api.Unit{Vars: make([]string, c.vars), Funcs: []api.Func{{Params: []string{"p"}}}}
		for _, n := range c.sizes {
			u.Arrays = append(u.Arrays, api.Array{Name: "a", Size: n})
		}
		if got := Words(u); got != c.want {
			t.Errorf("Words of %d variables, arrays of %v: %d, want %d", c.vars, c.sizes, got, c.want)
		}
	}
}

// P7.2
func TestProgramsThatMayBe(t *testing.T) {
	for _, p := range [][]string{
		nil,
		{"unit one"},
		{"unit one var x open f(p) { x = (x + p); return x; }"},
		{"unit one open f(p) { p = 1; return p; }"},
		{"unit one array a 3 open f() { a[a[0]] = a[1]; }"},
		// Functions of a unit ask each other, those behind them too, open or not, and themselves.
		{"unit one func f() { return g(1, 2); } open g(a, b) { return f(); } func h() { return h(); }"},
		{"unit one func f(a, b, c, d) { return f(d, c, b, a); }"},
		// Open ones of others, ahead of it and behind it, are asked by their unit's name, its own too.
		{"unit one open f() { return two.g(1); }", "unit two open g(p) { return one.f(); }"},
		{"unit one open f() { return one.f(); }"},
		// One name, for things of other kinds, or of other units, or functions.
		{"unit x var x open x(x) { x = x; return x(x); }"},
		{"unit one array a 2 func a(a) { a[a] = a(a[a]); a = a; }"},
		{"unit one var x array a 1 open f(p) { x = 1; }", "unit two var x array a 2 open f(p) { x = p; }"},
		{"unit one open f(p) { return p; } open g(p) { return p; }"},
		// A variable in one unit, an array in another one.
		{"unit one var x", "unit two array x 1"},
		// A param that hides a variable.
		{"unit one var x func f(x) { x = x; } func g() { x = x; }"},
		{"unit a", "unit b", "unit c", "unit d", "unit e"},
	} {
		if e := Check(program(t, p...)); e != 0 {
			t.Errorf("%q: %v", p, e)
		}
	}
}

// full unit: as many variables, arrays, functions and params as may be.
func full(name string) string {
	s := "unit " + name
	for i := range 8 {
		s += fmt.Sprint(" var x", i)
	}
	for i := range 3 {
		s += fmt.Sprint(" array a", i, " 10")
	}
	for i := range 8 {
		s += fmt.Sprint(" open f", i, "(p, q, r, s) { x7 = s; a2[9] = x0; return f7(p, q, r, a.f7(s, x1, a0[1], 1)); }")
	}
	return s
}

// P7.2: all that may be at once, and one unit more.
func TestFullPrograms(t *testing.T) {
	p := program(t, full("a"), full("b"), full("c"), full("d"), full("e"))
	if e := Check(p); e != 0 {
		t.Errorf("five units: %v", e)
	}
	if e := Check(append(p, program(t, "unit f")...)); e != 1 {
		t.Errorf("six units: %v", e)
	}
}

// P7.2: five units that may be have at most 190 words, so that this bound is asked for by itself.
func TestTooManyWords(t *testing.T) {
	for _, c := range []struct {
		sizes []int
		want  bool
	}{
		{nil, false},
		{[]int{249}, false},
		{[]int{250}, true},
		{[]int{100, 100, 47}, false},
		{[]int{100, 100, 48}, true},
		{[]int{48, 100, 100}, true},
	} {
		var p []api.Unit
		for _, n := range c.sizes {
			p = append(p, api.Unit{Vars: []string{"x"}, Arrays: []api.Array{{Name: "a", Size: n}}})
		}
		if got := tooManyWords(p); got != c.want {
			t.Errorf("a variable and an array of %v: %v", c.sizes, got)
		}
	}
}

// P7.2: too many units are told ahead of all that is wrong with them.
func TestTooManyUnits(t *testing.T) {
	for _, l := range [][]string{
		{"a", "b", "c", "d", "e", "f"},
		{"a", "a", "a", "a", "a", "a"},
		{"", "A", "c", "d", "e", "f"},
		{"a", "b", "c", "d", "e", ""},
		{"a", "b", "c", "d", "e", "f", "g", "h", "i"},
	} {
		if e := Check(unitsNamed(l...)); e != 1 {
			t.Errorf("%q: %v", l, e)
		}
	}
	if e := Check(make([]api.Unit, 100000)); e != 1 {
		t.Errorf("many units: %v", e)
	}
}

// P7.2: what is wrong with units by themselves, one by one.
func TestUnitsThatMayNotBe(t *testing.T) {
	noIdent := api.Unit{Name: "unit"}
	noRange := api.Unit{Name: "a", Arrays: []api.Array{{Name: "x", Size: 11}}}
	noSize := api.Unit{Name: "a", Vars: strings.Fields("a b c d e f g h i")}
	noKind := api.Unit{Name: "a", Funcs: []api.Func{{Name: "f", Body: []api.Stmt{{}}}}}
	good, again := api.Unit{Name: "a"}, api.Unit{Name: "b", Vars: []string{"x", "x"}}
	unknown := api.Unit{Name: "c", Funcs: []api.Func{{Name: "f", Body: []api.Stmt{{Kind: 6, Exprs: []api.Expr{{Kind: 2, S: "x"}}}}}}}
	for i, c := range []struct {
		p    []api.Unit
		want api.Errno
	}{
		{[]api.Unit{noIdent}, 4},
		{[]api.Unit{noRange}, 2},
		{[]api.Unit{noSize}, 1},
		{[]api.Unit{noKind}, 3},
		{[]api.Unit{{}}, 4},
		{[]api.Unit{noRange, noIdent}, 2},
		{[]api.Unit{noIdent, noRange}, 4},
		{[]api.Unit{noKind, noSize, noIdent}, 3},
		{[]api.Unit{good, good, noRange}, 2},
		{[]api.Unit{noRange, good, good}, 2},
		{[]api.Unit{again, noKind}, 3},
		{[]api.Unit{unknown, noKind}, 3},
		{[]api.Unit{unknown, again, good, good, noIdent}, 4},
	} {
		if e := Check(c.p); e != c.want {
			t.Errorf("case %d: %v, want %d", i, e, c.want)
		}
	}
}

// P7.2
func TestTwice(t *testing.T) {
	for _, c := range []struct {
		p    []string
		want api.Errno
	}{
		{[]string{"unit a", "unit a"}, 6},
		{[]string{"unit a", "unit b", "unit c", "unit d", "unit a"}, 6},
		{[]string{"unit a", "unit b", "unit c", "unit d", "unit d"}, 6},
		{[]string{"unit a", "unit ab", "unit b", "unit abc"}, 0},
		{[]string{"unit a var x var x"}, 6},
		{[]string{"unit a var x var y var z var x"}, 6},
		{[]string{"unit a var x var y var z var z"}, 6},
		{[]string{"unit a array x 1 array x 1"}, 6},
		{[]string{"unit a array x 1 array y 1 array y 2"}, 6},
		{[]string{"unit a var x array x 1"}, 6},
		{[]string{"unit a var x var y array v 1 array w 1 array y 1"}, 6},
		{[]string{"unit a func f() { } func f() { }"}, 6},
		{[]string{"unit a func f() { } open g() { } open f(p) { }"}, 6},
		{[]string{"unit a func f() { } open g() { } open g() { }"}, 6},
		{[]string{"unit a func f(p, p) { }"}, 6},
		{[]string{"unit a func f(p, q, r, p) { }"}, 6},
		{[]string{"unit a func f(p, q, r, r) { }"}, 6},
		{[]string{"unit a func f(p, q) { } func g(q, q) { }"}, 6},
		{[]string{"unit a", "unit b var x", "unit c var x var x"}, 6},
		{[]string{"unit a", "unit b var x", "unit c func f(p, p) { }"}, 6},
	} {
		if e := Check(program(t, c.p...)); e != c.want {
			t.Errorf("%q: %v, want %d", c.p, e, c.want)
		}
	}
}

// P7.2: what an expression, or a statement, names is there, or not.
func TestNone(t *testing.T) {
	other := "unit two var v array w 3 open f(p) { } func g(p) { } open h(p) { }"
	for _, c := range []struct {
		stmt string
		want api.Errno
	}{
		{"say x;", 0},
		{"say p;", 0},
		{"say q;", 0},
		{"say y;", 5},
		{"say a;", 5},
		{"say f;", 5},
		{"say one;", 5},
		{"say r;", 5}, // a param of another function
		{"say v;", 5}, // a variable of another unit
		{"say xx;", 5},
		{"x = 1;", 0},
		{"p = 1;", 0},
		{"q = 1;", 0},
		{"y = 1;", 5},
		{"a = 1;", 5},
		{"f = 1;", 5},
		{"r = 1;", 5},
		{"v = 1;", 5},
		{"a[1] = 1;", 0},
		{"x[1] = 1;", 5},
		{"p[1] = 1;", 5},
		{"y[1] = 1;", 5},
		{"f[1] = 1;", 5},
		{"w[1] = 1;", 5},
		{"say a[1];", 0},
		{"say a[100];", 0},
		{"say x[1];", 5},
		{"say p[1];", 5},
		{"say y[1];", 5},
		{"say f[1];", 5},
		{"say w[1];", 5},
		{"say f(1, 2);", 0},
		{"say g(1);", 0},
		{"say h(1);", 5}, // a function of another unit
		{"say x(1);", 5},
		{"say a(1);", 5},
		{"say p(1);", 5},
		{"say one(1);", 5},
		{"say two(1);", 5},
		{"say two.f(1);", 0},
		{"say two.h(1);", 0},
		{"say two.g(1);", 5}, // it is not open
		{"say two.i(1);", 5},
		{"say two.v(1);", 5},
		{"say two.two(1);", 5},
		{"say one.f(1, 2);", 0},
		{"say one.g(1);", 5}, // its own, but not open
		{"say one.h(1);", 5},
		{"say one.x(1);", 5},
		{"say tri.f(1);", 5},
		{"say x.f(1);", 5},
		{"say f.f(1);", 5},
	} {
		own := "unit one var x array a 4 open f(p, q) { " + c.stmt + " } func g(r) { }"
		for _, p := range [][]string{{own, other}, {other, own}, {"unit more", own, other}} {
			if e := Check(program(t, p...)); e != c.want {
				t.Errorf("%q: %v, want %d", p, e, c.want)
			}
		}
	}
}

// P7.2
func TestCount(t *testing.T) {
	one := "unit one func f() { } open g(p) { } func h(p, q) { } open i(p, q, r, s) { } "
	two := "unit two open f(p) { } open g() { } open i(p, q, r) { }"
	args := []string{"", "1", "1, 2", "1, 2, 3", "1, 2, 3, 4"}
	for name, takes := range map[string]int{"f": 0, "g": 1, "h": 2, "i": 4, "two.f": 1, "two.g": 0, "two.i": 3, "one.g": 1, "one.i": 4} {
		for n, s := range args {
			want := api.Errno(7)
			if n == takes {
				want = 0
			}
			p := program(t, one+"func j() { return "+name+"("+s+"); }", two)
			if e := Check(p); e != want {
				t.Errorf("%s(%s): %v, want %d", name, s, e, want)
			}
		}
	}
}

// P7.2: a function that is asked is the first of its name (P7.1), though its unit is refused later.
func TestAskedIsTheFirst(t *testing.T) {
	for _, c := range []struct {
		asked, two string
		want       api.Errno
	}{
		{"two.f(1)", "unit two open f(p) { } open f() { }", 6},
		{"two.f(1)", "unit two open f() { } open f(p) { }", 7},
		{"two.f(1)", "unit two open f(p) { } func f(p) { }", 6},
		{"two.f(1)", "unit two func f(p) { } open f(p) { }", 5},
	} {
		if e := Check(program(t, "unit one func f() { return "+c.asked+"; }", c.two)); e != c.want {
			t.Errorf("%s of %q: %v, want %d", c.asked, c.two, e, c.want)
		}
	}
}

// P7.2: the first thing that is wrong is told. In a body, y and z[..] and h(..) are none, and f(1) takes another number.
func TestOrderInBodies(t *testing.T) {
	for _, c := range []struct {
		body string
		want api.Errno
	}{
		{"say y; say f(1);", 5},
		{"say f(1); say y;", 7},
		{"y = f(1);", 5},
		{"x = f(1); y = 1;", 7},
		{"z[f(1)] = 1;", 5},
		{"a[y] = f(1);", 5},
		{"a[f(1)] = y;", 7},
		{"say f(y);", 7}, // an expression ahead of its Args
		{"say h(f(1));", 5},
		{"say z[f(1)];", 5},
		{"say a[f(y)];", 7},
		{"say a[y];", 5},
		{"say g(f(1), y);", 7},
		{"say g(y, f(1));", 5},
		{"say g(x, f(1));", 7},
		{"say g(g(x, a[f(1)]), y);", 7},
		{"say (y + f(1));", 5},
		{"say (f(1) + y);", 7},
		{"say ((x + (1 * f(1))) + y);", 7},
		{"if y { say f(1); } else { say f(1); }", 5},
		{"if f(1) { say y; } else { say y; }", 7},
		{"if x { say f(1); } else { say y; }", 7},
		{"if x { say y; } else { say f(1); }", 5},
		{"if x { } else { say f(1); } say y;", 7},
		{"if x { if x { } else { say f(1); } } else { say y; }", 7},
		{"while y { say f(1); }", 5},
		{"while f(1) { say y; }", 7},
		{"while x { say f(1); } say y;", 7},
		{"while x { while x { return f(1); } say y; }", 7},
		{"return x; return f(1); return y;", 7},
	} {
		p := program(t, "unit one var x array a 3 func f() { } func g(p, q) { } func i() { "+c.body+" }")
		if e := Check(p); e != c.want {
			t.Errorf("%s: %v, want %d", c.body, e, c.want)
		}
	}
}

// P7.2: units one by one, and their functions one by one, each with its params ahead of its body.
func TestOrderOfUnitsAndFuncs(t *testing.T) {
	for _, c := range []struct {
		p    []string
		want api.Errno
	}{
		{[]string{"unit a func f() { say y; }", "unit a"}, 6},
		{[]string{"unit a func f() { say y; }", "unit b var x var x"}, 5},
		{[]string{"unit a var x var x", "unit b func f() { say y; }"}, 6},
		{[]string{"unit a func f() { say f(1); }", "unit b func f() { say y; }"}, 7},
		{[]string{"unit a func f() { say y; }", "unit b func f() { say f(1); }"}, 5},
		{[]string{"unit a var x var x func f() { say y; }"}, 6},
		{[]string{"unit a var x array x 1 func f() { say y; }"}, 6},
		{[]string{"unit a func f() { say y; } func f() { }"}, 6},
		{[]string{"unit a func f(p, p) { say y; }"}, 6},
		{[]string{"unit a func f() { say y; } func g(p, p) { }"}, 5},
		{[]string{"unit a func f() { say f(1); } func g(p, p) { }"}, 7},
		{[]string{"unit a func f() { } func g(p, p) { say y; }"}, 6},
		{[]string{"unit a func f() { say f(1); } func g() { say y; }"}, 7},
		{[]string{"unit a func f() { say y; } func g() { say f(1); }"}, 5},
		{[]string{"unit a func f() { say y; }", "unit b func f(p, p) { }"}, 5},
		{[]string{"unit a func f(p, p) { }", "unit b func f() { say y; }"}, 6},
	} {
		if e := Check(program(t, c.p...)); e != c.want {
			t.Errorf("%q: %v, want %d", c.p, e, c.want)
		}
	}
}

// P7.2: lists that hold themselves are too deep, and end.
func TestListsWithinThemselves(t *testing.T) {
	args := make([]api.Expr, 4)
	for i := range args {
		args[i] = api.Expr{Kind: 4, S: "f", Args: args}
	}
	body := make([]api.Stmt, 3)
	for i := range body {
		body[i] = api.Stmt{Kind: 3, Exprs: []api.Expr{{Kind: 1}}, Body: body, Else: body}
	}
	for i, l := range [][]api.Stmt{{{Kind: 6, Exprs: args[:1]}}, body} {
		if e := Check([]api.Unit{{Name: "a", Funcs: []api.Func{{Name: "f", Body: l}}}}); e != 1 {
			t.Errorf("case %d: %v", i, e)
		}
	}
}

// Whatever is asked, what was handed in stays as it was, spare room too.
func TestNothingIsChanged(t *testing.T) {
	p := program(t, full("a"), full("b"))
	spare := slices.Grow(p, 3)
	before := fmt.Sprint(p, spare[:cap(spare)])
	for range 2 {
		if Check(spare) != 0 || Unit(spare, "b") != 1 || Func(spare[1], "f3") != 3 || Words(spare[0]) != 38 {
			t.Error("another answer")
		}
	}
	if fmt.Sprint(p, spare[:cap(spare)]) != before {
		t.Error("what was handed in is changed")
	}
}
