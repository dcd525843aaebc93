package eval

import (
	"fmt"
	"strings"
	"testing"

	"barbican/api"
)

// body of the function f of a unit that has variables, arrays, and functions that tell that they are called.
func body(t *testing.T, s string) asked {
	t.Helper()
	return of(t, "unit one var x var y array a 3 array b 2 func f() { "+s+" } func id(p) { say p; return p; } func inc() { x = (x + 1); return x; } func none(p) { } func more(p, q, r) { say r; say q; say p; return ((p * 100) + ((q * 10) + r)); } func deep() { return deep(); }")
}

// outcome of a body as a text: the end, the value, and what was told; and the cells.
func outcome(t *testing.T, s string) (string, string) {
	t.Helper()
	o, l := body(t, s).called(t)
	return told([]any{o.End, o.Value, o.Told}), told(l)
}

type example struct{ body, want string }

// outcomes of bodies are as they should be.
func outcomes(t *testing.T, l []example) {
	t.Helper()
	for _, c := range l {
		if got, _ := outcome(t, c.body); got != c.want {
			t.Errorf("%s: %s, want %s", c.body, got, c.want)
		}
	}
}

// P8.3: statements are done one by one, until one returns a value; without one the value is 0.
func TestReturns(t *testing.T) {
	outcomes(t, []example{
		{"", "[1 0 []]"},
		{"say 3;", "[1 0 [3]]"},
		{"x = 3;", "[1 0 []]"},
		{"if 1 { x = 5; }", "[1 0 []]"},
		{"x = id(4);", "[1 0 [4]]"},
		{"return 0;", "[1 0 []]"},
		{"return 65535;", "[1 65535 []]"},
		{"say 1; return 2; say 3;", "[1 2 [1]]"},
		{"return 1; return 2;", "[1 1 []]"},
		{"say 1; say 2; say 3;", "[1 0 [1 2 3]]"},
		{"return 0; say 3; return 7;", "[1 0 []]"}, // 0 is a value, too
		{"if 1 { return 0; } return 7;", "[1 0 []]"},
		{"if 0 { } else { return 0; } return 7;", "[1 0 []]"},
		{"while 1 { return 0; } return 7;", "[1 0 []]"},
		{"if 1 { say 1; return 2; say 3; } say 4;", "[1 2 [1]]"},
		{"if 0 { return 1; } else { say 5; return 2; say 3; } say 4;", "[1 2 [5]]"},
		{"while 1 { say 1; return 2; say 3; } say 4;", "[1 2 [1]]"},
		{"while 1 { while 1 { if 1 { if 0 { } else { return 6; } } say 1; } say 2; } say 3;", "[1 6 []]"},
		{"if 1 { say 1; } say 2; return 3;", "[1 3 [1 2]]"},
		{"say none(5); return (none(6) + 2);", "[1 2 [0]]"},
		{"x = id(3); return (x + id(4));", "[1 7 [3 4]]"}, // what is called returns for itself alone
	})
}

// P8.3: a variable of the function, or its unit.
func TestSet(t *testing.T) {
	for _, c := range []struct {
		sources     []string
		want, cells string
	}{
		{[]string{"unit one var x var y func f() { y = 4; x = (y + 1); }"}, "[1 0 []]", "[{[5 4] []}]"},
		{[]string{"unit one var x var y func f() { x = 2; x = (x * x); x = (x * x); return x; }"}, "[1 16 []]", "[{[16 0] []}]"},
		// A param comes ahead of a variable of that name.
		{[]string{"unit one var x func f() { x = 1; say g(5); return x; } func g(x) { say x; x = (x + 2); return x; }"}, "[1 1 [5 7]]", "[{[1] []}]"},
		{[]string{"unit one var x var y func f() { return g(5, 6); } func g(y, x) { say x; say y; x = 1; y = 2; return ((10 * x) + y); }"}, "[1 12 [6 5]]", "[{[0 0] []}]"},
		// What a function is called with is its own.
		{[]string{"unit one var x func f() { x = 3; say g(x); return x; } func g(p) { p = (p + 1); return p; }"}, "[1 3 [4]]", "[{[3] []}]"},
		{[]string{"unit one func f() { return g(1, 3); } func g(p, n) { if n { say g((p + 1), (n - 1)); } else { p = 50; } return p; }"}, "[1 1 [50 3 2]]", "[{[] []}]"},
		// A variable of the unit is that of all its functions, and of no other unit.
		{[]string{"unit one var x func f() { x = 3; say g(); return x; } func g() { x = (x + 1); return x; }"}, "[1 4 [4]]", "[{[4] []}]"},
		{[]string{"unit two var x array a 1 open g() { x = (x + 8); a[0] = 9; return x; }", "unit one var x array a 1 func f() { x = 3; say two.g(); say two.g(); return x; }"}, "[1 3 [8 16]]", "[{[16] [[9]]} {[3] [[0]]}]"},
		// One's own unit by its name, and back through another one.
		{[]string{"unit one var x open f() { x = (x + 1); if (x < 4) { say one.f(); } return x; }"}, "[1 4 [4 4 4]]", "[{[4] []}]"},
		{[]string{"unit one var x open f() { x = (x + 1); if (x < 4) { return two.g(x); } return 100; }", "unit two var x open g(p) { x = (x + p); say x; return (one.f() + x); }"}, "[1 118 [1 3 6]]", "[{[4] []} {[6] []}]"},
	} {
		of(t, c.sources...).comes(t, c.want, c.cells)
	}
}

// P8.3
func TestElements(t *testing.T) {
	for _, c := range []struct{ body, want, cells string }{
		{"a[0] = 1; a[1] = 2; a[2] = 3; b[0] = 4; b[1] = 5;", "[1 0 []]", "[{[0 0] [[1 2 3] [4 5]]}]"},
		{"a[2] = 1; a[a[2]] = 7; return (a[a[2]] + a[0]);", "[1 7 []]", "[{[0 0] [[0 7 1] [0 0]]}]"},
		{"b[1] = 6; say b[1]; say b[0]; say a[1];", "[1 0 [6 0 0]]", "[{[0 0] [[0 0 0] [0 6]]}]"},
		{"a[inc()] = inc();", "[1 0 []]", "[{[2 0] [[0 2 0] [0 0]]}]"},
		{"say a[2]; say b[2]; say 9;", "[2 0 [0]]", "[{[0 0] [[0 0 0] [0 0]]}]"},
		{"say a[3];", "[2 0 []]", "[{[0 0] [[0 0 0] [0 0]]}]"},
		{"say a[65535];", "[2 0 []]", "[{[0 0] [[0 0 0] [0 0]]}]"},
		{"say a[(0 - 1)];", "[2 0 []]", "[{[0 0] [[0 0 0] [0 0]]}]"},
		{"say a[(65535 + 2)];", "[1 0 [0]]", "[{[0 0] [[0 0 0] [0 0]]}]"},
		{"x = 1; a[3] = 1; x = 2;", "[2 0 []]", "[{[1 0] [[0 0 0] [0 0]]}]"},
		{"b[2] = 1;", "[2 0 []]", "[{[0 0] [[0 0 0] [0 0]]}]"},
		{"a[65535] = 1;", "[2 0 []]", "[{[0 0] [[0 0 0] [0 0]]}]"},
		{"a[(2 - 3)] = 1;", "[2 0 []]", "[{[0 0] [[0 0 0] [0 0]]}]"},
		// The edge of a place that is set is asked behind the value.
		{"a[3] = id(5);", "[2 0 [5]]", "[{[0 0] [[0 0 0] [0 0]]}]"},
		{"a[id(3)] = id(5);", "[2 0 [3 5]]", "[{[0 0] [[0 0 0] [0 0]]}]"},
		{"a[id(1)] = id(5);", "[1 0 [1 5]]", "[{[0 0] [[0 5 0] [0 0]]}]"},
		{"a[3] = inc();", "[2 0 []]", "[{[1 0] [[0 0 0] [0 0]]}]"},
		{"a[3] = deep();", "[5 0 []]", "[{[0 0] [[0 0 0] [0 0]]}]"},
		{"a[b[2]] = id(5);", "[2 0 []]", "[{[0 0] [[0 0 0] [0 0]]}]"},
		{"a[id(3)] = b[2];", "[2 0 [3]]", "[{[0 0] [[0 0 0] [0 0]]}]"},
		// The place is reckoned ahead of the value.
		{"x = 1; a[x] = inc(); say a[x];", "[1 0 [0]]", "[{[2 0] [[0 2 0] [0 0]]}]"},
	} {
		body(t, c.body).comes(t, c.want, c.cells)
	}
}

// P8.3: each array ends where its Size says, whatever stands beside it.
func TestEdges(t *testing.T) {
	for size := 1; size <= 10; size++ {
		for at := range 14 {
			for _, s := range []string{"a[p] = 7;", "x = a[p];"} {
				a := of(t, fmt.Sprintf("unit one var x array b 10 array a %d array c 10 func f(p) { %s return 1; }", size, s))
				a.args = []int{at}
				o, l := a.called(t)
				end, sum := api.Edge, 0
				if at < size {
					end = api.Done
				}
				if at < size && s[0] == 'a' {
					sum = 7
				}
				got := 0
				for _, n := range l[0].Arrays[1] {
					got += n
				}
				if o.End != end || got != sum || told(l[0].Arrays[0])+told(l[0].Arrays[2]) != strings.Repeat("[0 0 0 0 0 0 0 0 0 0]", 2) {
					t.Errorf("%s of %d words, at %d: %v, %v", s, size, at, o, l)
				}
			}
		}
	}
}

// P8.3
func TestIfAndWhile(t *testing.T) {
	outcomes(t, []example{
		{"if 0 { say 1; } else { say 2; } say 3;", "[1 0 [2 3]]"},
		{"if 1 { say 1; } else { say 2; } say 3;", "[1 0 [1 3]]"},
		{"if 2 { say 1; } else { say 2; } say 3;", "[1 0 [1 3]]"},
		{"if 65535 { say 1; } else { say 2; } say 3;", "[1 0 [1 3]]"},
		{"if 32768 { say 1; }", "[1 0 [1]]"},
		{"if (65535 + 1) { say 1; }", "[1 0 []]"},
		{"if 0 { say 1; } say 3;", "[1 0 [3]]"},
		{"if 1 { } else { say 2; } say 3;", "[1 0 [3]]"},
		{"if 1 { x = 0; } else { say 2; } if x { } else { if 1 { say 4; } }", "[1 0 [4]]"},
		{"x = 1; if x { x = 0; say 1; } else { say 2; }", "[1 0 [1]]"}, // it is asked once
		{"x = 1; while x { x = 0; say 1; } say 2;", "[1 0 [1 2]]"},
		{"while 0 { say 1; } say 2;", "[1 0 [2]]"},
		{"while (x < 3) { say x; x = (x + 1); } return x;", "[1 3 [0 1 2]]"},
		{"x = 3; while x { say x; x = (x - 1); } return x;", "[1 0 [3 2 1]]"},
		{"x = 65534; while x { say x; x = (x + 1); } return 5;", "[1 5 [65534 65535]]"},
		{"while id((x < 2)) { x = (x + 1); } say 9;", "[1 0 [1 1 0 9]]"},
		{"while (x < 3) { y = 0; while (y < x) { say ((x * 10) + y); y = (y + 1); } x = (x + 1); }", "[1 0 [10 20 21]]"},
		{"while 1 { x = (x + 1); if (x == 4) { return x; } say x; }", "[1 4 [1 2 3]]"},
	})
}

// P8.3: 500 are told, and no more.
func TestSay(t *testing.T) {
	for _, c := range []struct {
		most      int
		end, says int
	}{
		{0, api.Done, 0}, {1, api.Done, 1}, {499, api.Done, 499}, {500, api.Done, 500}, {501, api.Long, 500}, {502, api.Long, 500}, {9000, api.Long, 500},
	} {
		a := of(t, "unit one var x func f(p) { while (x < p) { x = (x + 1); say x; } return x; }")
		a.args = []int{c.most}
		o, l := a.called(t)
		value := c.most
		if c.end == api.Long {
			value = 0
		}
		if o.End != c.end || o.Value != value || len(o.Told) != c.says || l[0].Vars[0] != min(c.most, 501) {
			t.Errorf("%d: %v, %v", c.most, o, l)
		}
		for i, n := range o.Told {
			if n != i+1 {
				t.Fatalf("%d: %v", c.most, o.Told)
			}
		}
	}
}

// P8.3: it is too long behind its value, and wherever it is told: all units and functions tell into one list.
func TestLong(t *testing.T) {
	full := "x = 0; while (x < 500) { x = (x + 1); say 1; } "
	for _, c := range []struct {
		stmt string
		end  int
	}{
		{"", api.Done},
		{"return 1;", api.Done},
		{"say 1;", api.Long},
		{"say a[3];", api.Edge},
		{"say deep();", api.Deep},
		{"say id(1);", api.Long},
		{"x = id(1);", api.Long},
		{"x = two.g();", api.Long},
		{"a[3] = id(1);", api.Long},
		{"x = (id(1) + a[3]);", api.Long},
		{"x = (a[3] + id(1));", api.Edge},
	} {
		a := of(t, "unit one var x array a 3 func f() { "+full+c.stmt+" } func id(p) { say p; } func deep() { x = deep(); }", "unit two open g() { say 2; }")
		if o, _ := a.called(t); o.End != c.end || len(o.Told) != 500 {
			t.Errorf("%s: %d, %d told", c.stmt, o.End, len(o.Told))
		}
	}
	a := of(t, "unit one var x func f() { while (x < 250) { x = (x + 1); say two.g(x); } }", "unit two open g(p) { say p; return p; }")
	if o, _ := a.called(t); o.End != api.Done || len(o.Told) != 500 || o.Told[498] != 250 || o.Told[499] != 250 {
		t.Errorf("two units tell: %d, %d told", o.End, len(o.Told))
	}
}

// P8.3: Args are reckoned one by one, ahead of what they are for.
func TestArgs(t *testing.T) {
	outcomes(t, []example{
		{"return (id(1) + id(2));", "[1 3 [1 2]]"},
		{"return (id(5) - id(2));", "[1 3 [5 2]]"},
		{"return ((id(1) + id(2)) * (id(3) + id(4)));", "[1 21 [1 2 3 4]]"},
		{"return more(id(1), id(2), id(3));", "[1 123 [1 2 3 3 2 1]]"},
		{"return more(more(1, 2, 3), 4, id(5));", "[1 12345 [3 2 1 5 5 4 123]]"},
		{"return a[id(id(1))];", "[1 0 [1 1]]"},
		// Each has its value when it is reckoned.
		{"return (x + inc());", "[1 1 []]"},
		{"return (inc() + x);", "[1 2 []]"},
		{"return ((inc() * 10) + inc());", "[1 12 []]"},
		{"return more(x, inc(), x);", "[1 11 [1 1 0]]"},
		{"return (a[x] + (inc() + a[x]));", "[1 1 []]"},
		{"x = (x + inc()); return x;", "[1 1 []]"},
		{"x = 5; x = (inc() + (x * 10)); return x;", "[1 66 []]"},
		// Both are reckoned, whatever the first one is.
		{"return (0 & id(2));", "[1 0 [2]]"},
		{"return (0 * id(2));", "[1 0 [2]]"},
		{"return (65535 | id(2));", "[1 65535 [2]]"},
		// The first that ends the run tells how.
		{"return (a[3] + deep());", "[2 0 []]"},
		{"return (deep() + a[3]);", "[5 0 []]"},
		{"return more(id(1), a[3], id(3));", "[2 0 [1]]"},
		{"return id(a[3]);", "[2 0 []]"},
		{"return a[id(9)];", "[2 0 [9]]"},
	})
}

// P8.3: the operations, of two words.
func TestOperations(t *testing.T) {
	for _, c := range []struct {
		sign    string
		p, q, n int
	}{
		{"+", 3, 4, 7}, {"+", 65535, 2, 1},
		{"-", 7, 3, 4}, {"-", 3, 7, 65532}, {"-", 0, 1, 65535},
		{"*", 6, 7, 42}, {"*", 256, 257, 256}, {"*", 65535, 65535, 1},
		{"&", 12, 10, 8}, {"|", 12, 10, 14}, {"^", 12, 10, 6}, {"^", 65535, 1, 65534},
		{"<", 1, 2, 1}, {"<", 2, 1, 0}, {"<", 2, 2, 0}, {"<", 32767, 32768, 1}, {"<", 65535, 0, 0},
		{"==", 2, 2, 1}, {"==", 2, 3, 0}, {"==", 65535, 65535, 1},
		{"<<", 3, 2, 12}, {"<<", 3, 15, 32768}, {"<<", 3, 16, 3}, {"<<", 3, 17, 6}, {"<<", 65535, 65535, 32768},
		{">>", 12, 2, 3}, {">>", 65535, 15, 1}, {">>", 12, 16, 12}, {">>", 12, 17, 6},
	} {
		a := of(t, "unit one func f(p, q) { return (p "+c.sign+" q); }")
		a.args = []int{c.p, c.q}
		a.comes(t, told([]any{1, c.n, "[]"}), "[{[] []}]")
	}
}

// P8.3: there are 20 frames, those ahead of the first one among them.
func TestDeep(t *testing.T) {
	for _, f := range []string{
		"x = (x + 1); if n { return f((n - 1)); } return 7;",
		"x = (x + 1); if n { return one.f((n - 1)); } return 7;",
		"x = (x + 1); if n { return two.f((n - 1)); } return 7;",
		"x = (x + 1); if n { if 1 { while 1 { return (g((n - 1)) * 1); } } } return 7;",
	} {
		for deep := range 20 {
			for n := range 25 {
				a := of(t, "unit one var x open f(n) { "+f+" } func g(n) { return two.f(n); }", "unit two var x open f(n) { x = (x + 1); if n { return one.f((n - 1)); } return 7; }")
				a.args, a.deep = []int{n}, deep
				frames := n + 1
				if strings.Contains(f, "g(") {
					frames = 1 + 3*(n/2) + n%2*2 // g stands between f and two.f
				}
				want, value := api.Done, 7
				if deep+frames > 20 {
					want, value = api.Deep, 0
				}
				if o, _ := a.called(t); o.End != want || o.Value != value {
					t.Errorf("%s: %d frames behind %d: %v, want the end %d", f, frames, deep, o, want)
				}
			}
		}
	}
}

// P8.3: there are too many frames behind the Args; and a function that came back has none any more.
func TestDeepBehindArgs(t *testing.T) {
	a := of(t, "unit one array a 2 open f(p) { if p { return two.g(id(1), id(a[p])); } return 3; } func id(p) { }", "unit two open g(p, q) { }")
	a.deep = 19
	for n, want := range []int{api.Done, api.Deep, api.Deep} {
		a.args = []int{n}
		if o, _ := a.called(t); o.End != want {
			t.Errorf("%d: the end is %d, want %d", n, o.End, want)
		}
	}
	a = of(t, "unit one array a 2 open f(p) { say p; return g(a[p]); } func g(p) { say 5; }")
	a.deep = 19
	for n, want := range []string{"[5 0 [0]]", "[5 0 [1]]", "[2 0 [2]]", "[2 0 [3]]"} {
		a.args = []int{n}
		a.comes(t, want, "[{[] [[0 0]]}]")
	}
	a = of(t, "unit one var x func f() { while (x < 50) { x = (g() + g()); } return x; } func g() { return (x + 1); }")
	a.deep = 18
	a.comes(t, "[1 62 []]", "[{[62] []}]")
	a.deep = 19
	a.comes(t, "[5 0 []]", "[{[0] []}]")
}

// P8.4: how much fuel bodies take: with that they are Done, with less Spent.
func TestFuel(t *testing.T) {
	for _, c := range []struct {
		body string
		cost int
	}{
		{"", 0},
		{"x = 1;", 2},
		{"x = y;", 2},
		{"say 1;", 2},
		{"return 1;", 2},
		{"return 1; say 2;", 2},
		{"x = 1; say 2; return 3;", 6},
		{"x = (1 + 2);", 4},
		{"x = ((1 + 2) * (x + y));", 8},
		{"x = a[1];", 3},
		{"x = a[(1 + 1)];", 5},
		{"a[1] = 2;", 3},
		{"a[(0 + 1)] = a[0];", 6},
		{"if 0 { x = 1; }", 2},
		{"if 1 { x = 1; }", 4},
		{"if 1 { x = 1; } else { x = 1; y = 2; }", 4},
		{"if 0 { x = 1; } else { x = 1; y = 2; }", 6},
		{"if 1 { }", 2},
		{"if (1 < 2) { if 0 { } }", 6},
		{"while 0 { x = 1; }", 2},
		// One when it begins, and one when it asks again, each with the expression.
		{"while (x < 1) { x = 1; }", 1 + 3 + 2 + 1 + 3},
		{"while (x < 3) { x = (x + 1); }", 1 + 3 + 3*(4+1+3)},
		{"x = 1; while x { x = 0; }", 2 + 1 + 1 + 2 + 1 + 1},
		{"while 1 { return 5; }", 1 + 1 + 2},
		{"x = none(1);", 3},
		{"x = id(1);", 1 + 1 + 1 + 2 + 2},
		{"return more(1, 2, 3);", 1 + 1 + 3 + 3*2 + 1 + 9},
		{"x = inc(); x = inc();", 2 * (1 + 1 + 4 + 2)},
	} {
		a := body(t, c.body)
		for fuel := range c.cost + 3 {
			a.fuel = fuel
			want := api.Done
			if fuel < c.cost {
				want = api.Spent
			}
			if o, _ := a.called(t); o.End != want {
				t.Errorf("%s with %d: the end is %d, want %d", c.body, fuel, o.End, want)
			}
		}
	}
}

// P8.4: what is done by each unit of fuel. The cells and what was told tell how far a run came.
func TestFuelUnitByUnit(t *testing.T) {
	for _, c := range []struct {
		body string
		want []string // with so much fuel: the end, the value, what was told, x, y and a
	}{
		{"x = 1; say 2; return 3;", []string{
			"3 0 [] 0 0 [0 0 0]", "3 0 [] 0 0 [0 0 0]", "3 0 [] 1 0 [0 0 0]", "3 0 [] 1 0 [0 0 0]", "3 0 [2] 1 0 [0 0 0]", "3 0 [2] 1 0 [0 0 0]", "1 3 [2] 1 0 [0 0 0]", "1 3 [2] 1 0 [0 0 0]",
		}},
		{"a[1] = id(7);", []string{
			"3 0 [] 0 0 [0 0 0]", "3 0 [] 0 0 [0 0 0]", "3 0 [] 0 0 [0 0 0]", "3 0 [] 0 0 [0 0 0]", "3 0 [] 0 0 [0 0 0]", "3 0 [] 0 0 [0 0 0]", "3 0 [7] 0 0 [0 0 0]", "3 0 [7] 0 0 [0 0 0]", "1 0 [7] 0 0 [0 7 0]",
		}},
		{"while inc() { say x; }", []string{
			"3 0 [] 0 0 [0 0 0]", "3 0 [] 0 0 [0 0 0]", "3 0 [] 0 0 [0 0 0]", "3 0 [] 0 0 [0 0 0]", "3 0 [] 0 0 [0 0 0]", "3 0 [] 0 0 [0 0 0]", "3 0 [] 1 0 [0 0 0]", "3 0 [] 1 0 [0 0 0]", "3 0 [] 1 0 [0 0 0]", "3 0 [] 1 0 [0 0 0]", "3 0 [1] 1 0 [0 0 0]",
			"3 0 [1] 1 0 [0 0 0]", "3 0 [1] 1 0 [0 0 0]", "3 0 [1] 1 0 [0 0 0]", "3 0 [1] 1 0 [0 0 0]", "3 0 [1] 1 0 [0 0 0]", "3 0 [1] 2 0 [0 0 0]",
		}},
		// An end that is met by the last unit is that end; one that would be met by the next is Spent.
		{"x = a[3];", []string{"3 0 [] 0 0 [0 0 0]", "3 0 [] 0 0 [0 0 0]", "3 0 [] 0 0 [0 0 0]", "2 0 [] 0 0 [0 0 0]"}},
		{"a[3] = 1;", []string{"3 0 [] 0 0 [0 0 0]", "3 0 [] 0 0 [0 0 0]", "3 0 [] 0 0 [0 0 0]", "2 0 [] 0 0 [0 0 0]"}},
	} {
		a := body(t, c.body)
		for fuel, want := range c.want {
			a.fuel = fuel
			o, l := a.called(t)
			if got := told([]any{o.End, o.Value, o.Told, l[0].Vars[0], l[0].Vars[1], l[0].Arrays[0]}); got != "["+want+"]" {
				t.Errorf("%s with %d: %s, want %s", c.body, fuel, got, want)
			}
		}
	}
}

// P8.4: fuel that ends with the last frame, or the last thing to be told, that may be.
func TestFuelAtOtherEnds(t *testing.T) {
	a := of(t, "unit one func f() { return f(); }")
	for deep := range 20 {
		for fuel := range 45 {
			a.deep, a.fuel = deep, fuel
			want := api.Spent
			if fuel >= 2*(20-deep) {
				want = api.Deep
			}
			if o, _ := a.called(t); o.End != want {
				t.Errorf("%d frames ahead, with %d: the end is %d, want %d", deep, fuel, o.End, want)
			}
		}
	}
	a = of(t, "unit one func f() { while 1 { say 4; } }")
	for fuel, want := range map[int]int{2000: api.Spent, 2003: api.Spent, 2004: api.Long, 2005: api.Long, 1999: api.Spent} {
		a.fuel = fuel
		if o, _ := a.called(t); o.End != want || len(o.Told) != min(fuel/4, 500) {
			t.Errorf("with %d: the end is %d, want %d; %d told", fuel, o.End, want, len(o.Told))
		}
	}
}

// P8.4: all fuel that may be is taken, one by one, over all frames and units.
func TestAllFuel(t *testing.T) {
	a := of(t, "unit one var x func f() { while 1 { x = (x + 1); } }")
	o, l := a.called(t)
	// Six a round: while, 1; x =, +, x, 1.
	if o.End != api.Spent || l[0].Vars[0] != api.MaxFuel/6 {
		t.Errorf("%v, %v", o, l)
	}
	a = of(t, "unit one var x func f() { while 1 { x = two.g(x); } }", "unit two open g(p) { return (p + 1); }")
	o, l = a.called(t)
	// Nine a round: while, 1; x =, two.g, x; return, +, p, 1.
	if o.End != api.Spent || l[0].Vars[0] != api.MaxFuel/9 {
		t.Errorf("%v, %v", o, l)
	}
}
