package fold

import (
	"fmt"
	"math"
	"strings"
	"testing"

	"barbican/api"
	"barbican/eval"
	"barbican/names"
	"barbican/tree"
)

// nonWords lie beyond both edges, near them and far off; the lowest bits of some look like a word.
var nonWords = []int{
	math.MinInt, math.MinInt32, -65536, -65535, -16, -1,
	65536, 65537, 65551, 1 << 31, 1<<32 + 1, math.MaxInt - 1, math.MaxInt,
}

// program of sources: a unit each.
func program(t *testing.T, sources ...string) []api.Unit {
	t.Helper()
	var p []api.Unit
	for _, s := range sources {
		u, e := tree.Read(s)
		if e != api.OK {
			t.Fatalf("%q is no unit: %v", s, e)
		}
		p = append(p, u)
	}
	return p
}

// shown: the units of a program as texts.
func shown(t *testing.T, p []api.Unit) string {
	t.Helper()
	var all strings.Builder
	for _, u := range p {
		s, e := tree.Show(u)
		if e != api.OK {
			t.Fatalf("%v cannot be shown: %v", u, e)
		}
		all.WriteString(s)
	}
	return all.String()
}

// told: anything as a text in which empty lists are the same, be they nil or not.
func told(x any) string { return strings.ReplaceAll(fmt.Sprint(x), "<nil>", "[]") }

// folded: what a program that may be is folded to, which keeps what holds of all of them.
func folded(t *testing.T, p []api.Unit) []api.Unit {
	t.Helper()
	was := told(p)
	q, e := Program(p)
	if e != api.OK {
		t.Fatalf("Program(%s) is refused with %d", was, int(e))
	}
	if told(p) != was {
		t.Fatalf("Program changed %s", was)
	}
	if e := names.Check(q); e != api.OK {
		t.Fatalf("Program(%s) = %v, which may not be: %d", was, q, int(e))
	}
	if told(faces(p)) != told(faces(q)) {
		t.Fatalf("Program(%s) = %v, which is made of other things", was, q)
	}
	if old, now := sizeOf(p), sizeOf(q); now.all > old.all || now.stmts > old.stmts {
		t.Fatalf("Program(%s) = %v, which is greater: %v, %v", was, q, old, now)
	} else if now.open > 0 {
		t.Fatalf("Program(%s) = %v, in which operations of two numbers stand", was, q)
	}
	return q
}

// faces: a program without the bodies of its functions.
func faces(p []api.Unit) []api.Unit {
	var l []api.Unit
	for _, u := range p {
		funcs := u.Funcs
		u.Funcs = nil
		for _, f := range funcs {
			f.Body = nil
			u.Funcs = append(u.Funcs, f)
		}
		l = append(l, u)
	}
	return l
}

// size of a program: statements and expressions in all, the statements among them, and operations of two numbers.
type size struct{ all, stmts, open int }

func sizeOf(p []api.Unit) size {
	var z size
	for _, u := range p {
		for _, f := range u.Funcs {
			z.addStmts(f.Body)
		}
	}
	return z
}

func (z *size) addStmts(l []api.Stmt) {
	for _, s := range l {
		z.all++
		z.stmts++
		z.addExprs(s.Exprs)
		z.addStmts(s.Body)
		z.addStmts(s.Else)
	}
}

func (z *size) addExprs(l []api.Expr) {
	for _, x := range l {
		z.all++
		if x.Kind == api.Two && x.Args[0].Kind == api.Number && x.Args[1].Kind == api.Number {
			z.open++
		}
		z.addExprs(x.Args)
	}
}

// becomes: the program of these sources is folded to that of those.
func becomes(t *testing.T, from, to []string) {
	t.Helper()
	got, want := shown(t, folded(t, program(t, from...))), shown(t, program(t, to...))
	if got != want {
		t.Errorf("Program(%q) is\n%s\nwant\n%s", from, got, want)
	}
}

// inUnit: a body in a function f(p) of a unit that has what is asked in the tests.
func inUnit(body string) []string {
	return []string{"unit one var x array a 3 open f(p) { " + body + " } func g(p, q) { return p; }", "unit two open h(p, q, r, s) { }"}
}

// P9.1: each operation, at its edges.
func TestOperations(t *testing.T) {
	for _, c := range []struct{ from, to string }{
		{"0 + 0", "0"}, {"1 + 2", "3"}, {"65535 + 1", "0"}, {"65535 + 65535", "65534"}, {"32768 + 32767", "65535"},
		{"3 - 2", "1"}, {"2 - 3", "65535"}, {"0 - 65535", "1"}, {"7 - 7", "0"},
		{"6 * 7", "42"}, {"256 * 256", "0"}, {"65535 * 65535", "1"}, {"257 * 255", "65535"},
		{"12 & 10", "8"}, {"65535 & 0", "0"}, {"12 | 10", "14"}, {"65535 | 1", "65535"}, {"12 ^ 10", "6"}, {"65535 ^ 65535", "0"},
		{"1 < 2", "1"}, {"2 < 1", "0"}, {"2 < 2", "0"}, {"65535 < 0", "0"}, {"0 < 65535", "1"},
		{"2 == 2", "1"}, {"2 == 3", "0"}, {"0 == 65535", "0"}, {"65535 == 65535", "1"},
		{"1 << 15", "32768"}, {"1 << 16", "1"}, {"3 << 15", "32768"}, {"65535 << 1", "65534"}, {"1 << 65535", "32768"}, {"9 << 0", "9"},
		{"65535 >> 15", "1"}, {"65535 >> 16", "65535"}, {"32768 >> 31", "1"}, {"1 >> 1", "0"}, {"9 >> 0", "9"},
	} {
		becomes(t, inUnit("return ("+c.from+");"), inUnit("return "+c.to+";"))
	}
}

// P9.1: an operation of two numbers stands nowhere, whatever it stood in.
func TestEveryPlace(t *testing.T) {
	for _, c := range []struct{ from, to string }{
		{"x = (1 + 2);", "x = 3;"},
		{"p = (1 + 2);", "p = 3;"},
		{"a[(1 + 1)] = 7;", "a[2] = 7;"},
		{"a[x] = (1 + 1);", "a[x] = 2;"},
		{"a[(2 - 1)] = (2 - 2);", "a[1] = 0;"},
		{"say (4 * 4);", "say 16;"},
		{"return (4 == 4);", "return 1;"},
		{"if (1 < 2) { say (1 + 1); } else { say (2 + 2); }", "if 1 { say 2; } else { say 4; }"},
		{"if x { if x { x = (1 ^ 3); } else { x = (1 ^ 2); } } else { if x { x = (1 ^ 1); } else { x = (1 ^ 0); } }", "if x { if x { x = 2; } else { x = 3; } } else { if x { x = 0; } else { x = 1; } }"},
		{"while (x < (2 * 2)) { x = (x + (3 - 2)); }", "while (x < 4) { x = (x + 1); }"},
		{"while x { while x { while x { say (1 << 3); } } }", "while x { while x { while x { say 8; } } }"},
		{"x = a[(1 & 3)];", "x = a[1];"},
		{"x = a[a[a[(1 & 3)]]];", "x = a[a[a[1]]];"},
		{"x = g((1 + 1), (2 + 2));", "x = g(2, 4);"},
		{"x = two.h((1 + 1), x, p, (2 + 2));", "x = two.h(2, x, p, 4);"},
		{"x = (x + (1 + 1));", "x = (x + 2);"},
		{"x = ((1 + 1) + x);", "x = (2 + x);"},
		{"return 0; x = (1 + 1);", "return 0; x = 2;"},
		{"if 0 { x = (1 + 1); }", "if 0 { x = 2; }"},
		{"x = (1 + 1); x = (1 + 1); x = (1 + 1);", "x = 2; x = 2; x = 2;"},
	} {
		becomes(t, inUnit(c.from), inUnit(c.to))
	}
}

// P9.1: what comes of one operation is a number of another one.
func TestWithinOneAnother(t *testing.T) {
	for _, c := range []struct{ from, to string }{
		{"((1 + 2) * (3 + 4))", "21"},
		{"((((1 + 1) * 3) - 7) & 255)", "255"},
		{"(2 << (2 << (1 << 1)))", "512"},
		{"(((9 < 10) == (3 == 3)) - ((1 ^ 3) >> 1))", "0"},
		{"(((1 + 2) * x) + (3 * 3))", "((3 * x) + 9)"},
		{"g(((1 + 2) * 3), (p + (4 - (5 - 6))))", "g(9, (p + 5))"},
		{"a[((1 + 1) - (a[(1 - 1)] * 0))]", "a[(2 - (a[0] * 0))]"},
	} {
		becomes(t, inUnit("say "+c.from+";"), inUnit("say "+c.to+";"))
	}
}

// P9.1: as deep as may be: the operations of each depth, all the way up, fold to one number.
func TestAsDeepAsMayBe(t *testing.T) {
	x, sum := api.Expr{Kind: api.Number, N: 3}, 3
	for range api.MaxNest - 1 {
		x, sum = api.Expr{Kind: api.Two, N: api.Add, Args: []api.Expr{x, x}}, 2*sum
	}
	s := api.Stmt{Kind: api.Return, Exprs: []api.Expr{x}}
	for range api.MaxNest - 2 {
		s = api.Stmt{Kind: api.If, Exprs: []api.Expr{x}, Else: []api.Stmt{s}}
	}
	p := []api.Unit{{Name: "one", Funcs: []api.Func{{Name: "f", Body: []api.Stmt{s}}}}}
	q := folded(t, p)
	if got := sizeOf(q); got != (size{all: 2 * (api.MaxNest - 1), stmts: api.MaxNest - 1}) {
		t.Errorf("the size is %v", got)
	}
	deepest := q[0].Funcs[0].Body[0]
	for deepest.Kind == api.If {
		deepest = deepest.Else[0]
	}
	if want := told(api.Expr{Kind: api.Number, N: sum}); told(deepest.Exprs[0]) != want {
		t.Errorf("returned is %v, want %s", deepest.Exprs[0], want)
	}
}

// P9.1: all functions of all units, be they open or not, asked or not.
func TestEveryFunction(t *testing.T) {
	source := func(name, two string) string {
		return "unit " + name + " var x array a 2 func f() { x = " + two + "; } open g(p, q) { a[" + two + "] = p; } func h(x) { } open k() { say " + two + "; }"
	}
	var from, to []string
	for _, s := range []string{"one", "two", "tri", "four", "five"} {
		from, to = append(from, source(s, "(4 - 2)")), append(to, source(s, "2"))
		becomes(t, from, to)
	}
}

// P9.1: with nothing to fold a program stays what it is.
func TestNothingToFold(t *testing.T) {
	for _, s := range []string{
		"", "return 0;", "x = p;", "x = (p + x);", "x = (0 + p); x = (p * 1);", "a[9] = 65535;", "if x { } else { }", "while 1 { }",
		"return ((x + 1) + 2);", "return (1 + (2 + x));", "x = (g(1, 2) * 0);", "x = (a[0] - a[0]);", "say two.h(1, 2, 3, 4);",
	} {
		becomes(t, inUnit(s), inUnit(s))
	}
	becomes(t, nil, nil)
	becomes(t, []string{"unit one"}, []string{"unit one"})
	becomes(t, []string{"unit one", "unit two var x array a 10"}, []string{"unit one", "unit two var x array a 10"})
}

// ends of a run: how it ends, what is told, and the cells then, of a call of one.f with one word.
func ends(t *testing.T, p []api.Unit, deep int) string {
	t.Helper()
	l, e := eval.Fresh(p)
	if e != api.OK {
		t.Fatalf("Fresh(%v) is refused with %d", p, int(e))
	}
	o, l, e := eval.Call(p, l, "one", "f", []int{7}, deep, api.MaxFuel)
	if e != api.OK {
		t.Fatalf("Call(%v) is refused with %d", p, int(e))
	}
	return told([]any{o.End, o.Value, o.Told, l})
}

// P9.1: functions do the same: what they tell, ask and run into, in its order.
func TestDoesTheSame(t *testing.T) {
	for _, c := range []struct{ body, want string }{
		{"x = ((1 + 2) * p); return x;", "[1 21 [] [{[21] [[0 0 0]]} {[] []}]]"},
		{"return (f2(1) * 0);", "[1 0 [1] [{[1] [[0 0 0]]} {[] []}]]"},
		{"return ((2 - 2) & f2(2));", "[1 0 [2] [{[2] [[0 0 0]]} {[] []}]]"},
		{"return (f2(1) - f2(1));", "[1 0 [1 1] [{[1] [[0 0 0]]} {[] []}]]"},
		{"x = (1 + 1); return (a[(1 + 2)] * 0);", "[2 0 [] [{[2] [[0 0 0]]} {[] []}]]"},
		{"a[(2 + 1)] = f2((1 + 3));", "[2 0 [4] [{[4] [[0 0 0]]} {[] []}]]"},
		{"a[(3 - 1)] = f2((1 + 3));", "[1 0 [4] [{[4] [[0 0 4]]} {[] []}]]"},
		{"if (1 == 2) { say 1; } else { say (1 + 1); }", "[1 0 [2] [{[0] [[0 0 0]]} {[] []}]]"},
		{"while (1 < 1) { say 1; } return 5;", "[1 5 [] [{[0] [[0 0 0]]} {[] []}]]"},
		{"while (x < (2 + 1)) { x = (x + (2 - 1)); say x; }", "[1 0 [1 2 3] [{[3] [[0 0 0]]} {[] []}]]"},
		{"while (1 == 1) { x = ((1 + 1) + x); if (x == (2 * 5)) { return x; } }", "[1 10 [] [{[10] [[0 0 0]]} {[] []}]]"},
		{"while (1 == 1) { x = (2 + 1); }", "[3 0 [] [{[3] [[0 0 0]]} {[] []}]]"},
		{"x = (x + (3 - 2)); return f((1 + 1));", "[5 0 [] [{[20] [[0 0 0]]} {[] []}]]"},
		{"return (1 + 1); say (3 + 3);", "[1 2 [] [{[0] [[0 0 0]]} {[] []}]]"},
	} {
		p := program(t, "unit one var x array a 3 func f(p) { "+c.body+" } func f2(p) { x = p; say p; return p; }", "unit two")
		if got := ends(t, p, 0); got != c.want {
			t.Errorf("%q does %s; want %s", c.body, got, c.want)
		}
		if got := ends(t, folded(t, p), 0); got != c.want {
			t.Errorf("%q, folded, does %s; want %s", c.body, got, c.want)
		}
	}
}

// P9.1: with any frames ahead: a call that stands there is one frame more, as it was.
func TestDoesTheSameWithFrames(t *testing.T) {
	p := program(t, "unit one func f(p) { return (g((1 + 1)) + (two.h() * 0)); } func g(p) { return p; }", "unit two open h() { return k((2 + 2)); } func k(p) { say p; }")
	q := folded(t, p)
	for deep := range api.MaxDeep {
		want := "[1 2 [4] [{[] []} {[] []}]]"
		if deep > 17 {
			want = "[5 0 [] [{[] []} {[] []}]]"
		}
		if got := ends(t, p, deep); got != want {
			t.Errorf("with %d frames ahead: %s; want %s", deep, got, want)
		}
		if got := ends(t, q, deep); got != want {
			t.Errorf("folded, with %d frames ahead: %s; want %s", deep, got, want)
		}
	}
}

func refuses(t *testing.T, p []api.Unit, want api.Errno) {
	t.Helper()
	was := told(p)
	if q, e := Program(p); e != want || len(q) != 0 {
		t.Errorf("Program(%s): %v, %d; want none, %d", was, q, int(e), int(want))
	}
	if told(p) != was {
		t.Errorf("Program changed %s", was)
	}
}

// P9.1: what names' Check refuses, in whatever unit it stands.
func TestRefuses(t *testing.T) {
	for want, rests := range map[api.Errno][]string{
		api.ErrNone: {
			"func f() { y = (1 + 2); }", "func f() { return y; }", "func f() { return b[(1 + 1)]; }", "func f() { b[0] = 1; }",
			"func f() { return g(); }", "func f() { return two.g(); }", "func f() { return one.f(); }", "func f() { if 0 { say (1 + y); } }",
		},
		api.ErrTwice: {"array x 3", "array a 3", "func f() { } open f() { }", "func f(p, q, p) { }"},
		api.ErrCount: {"func f() { return f(1); }", "func f(p) { return f(); }", "func f(p) { return (1 + f((1 + 1), 2)); }"},
	} {
		for _, rest := range rests {
			bad := "unit one var x array a 2 " + rest
			refuses(t, program(t, bad), want)
			refuses(t, program(t, "unit two func f() { say (1 + 1); }", bad), want)
		}
	}
}

// P9.1: trees that no text tells.
func TestRefusesTrees(t *testing.T) {
	one := api.Expr{Kind: api.Number, N: 1}
	two := func(op int, args ...api.Expr) api.Expr { return api.Expr{Kind: api.Two, N: op, Args: args} }
	for _, c := range []struct {
		x    api.Expr
		want api.Errno
	}{
		{two(api.Add, one, one), api.OK},
		{two(0, one, one), api.ErrRange},
		{two(api.Shr+1, one, one), api.ErrRange},
		{two(math.MinInt, one, one), api.ErrRange},
		{two(api.Add), api.ErrForm},
		{two(api.Add, one), api.ErrForm},
		{two(api.Add, one, one, one), api.ErrForm},
		{two(api.Add, one, one, one, one, one), api.ErrSize},
		{two(api.Add, one, api.Expr{Kind: api.Number, N: 65536}), api.ErrRange},
		{two(api.Add, api.Expr{Kind: api.Number, N: -1}, one), api.ErrRange},
		{two(api.Add, one, api.Expr{}), api.ErrKind},
		{two(api.Add, api.Expr{Kind: api.Two + 1}, one), api.ErrKind},
		{two(api.Add, api.Expr{Kind: api.Number, S: "x"}, one), api.ErrForm},
		{api.Expr{Kind: api.Two, N: api.Add, S: "x", Args: []api.Expr{one, one}}, api.ErrForm},
		{api.Expr{Kind: api.Number, Args: []api.Expr{one}}, api.ErrForm},
		{api.Expr{}, api.ErrKind},
	} {
		p := []api.Unit{{Name: "one"}, {Name: "two", Funcs: []api.Func{{Name: "f", Body: []api.Stmt{{Kind: api.Say, Exprs: []api.Expr{c.x}}}}}}}
		if c.want == api.OK {
			folded(t, p)
		} else {
			refuses(t, p, c.want)
		}
	}
	for _, n := range nonWords {
		body := []api.Stmt{{Kind: api.Say, Exprs: []api.Expr{two(api.Mul, one, api.Expr{Kind: api.Number, N: n})}}}
		refuses(t, []api.Unit{{Name: "one", Funcs: []api.Func{{Name: "f", Body: body}}}}, api.ErrRange)
	}
	refuses(t, make([]api.Unit, api.MaxParts+1), api.ErrSize)
	refuses(t, []api.Unit{{Name: "if"}}, api.ErrForm)
	refuses(t, []api.Unit{{Name: "one"}, {Name: "one"}}, api.ErrTwice)
	refuses(t, []api.Unit{{Name: "one", Arrays: []api.Array{{Name: "a", Size: 11}}}}, api.ErrRange)
	refuses(t, []api.Unit{{Name: "one", Funcs: []api.Func{{Name: "f", Body: make([]api.Stmt, 1)}}}}, api.ErrKind)
}

// P9.1: too deep, or too much, even where it would not be once folded.
func TestRefusesBeforeItFolds(t *testing.T) {
	x := api.Expr{Kind: api.Number, N: 1}
	for range api.MaxNest {
		x = api.Expr{Kind: api.Two, N: api.Add, Args: []api.Expr{x, {Kind: api.Number, N: 1}}}
	}
	in := func(l []api.Stmt) []api.Unit {
		return []api.Unit{{Name: "one", Funcs: []api.Func{{Name: "f", Body: l}}}}
	}
	refuses(t, in([]api.Stmt{{Kind: api.Say, Exprs: []api.Expr{x}}}), api.ErrSize)
	folded(t, in([]api.Stmt{{Kind: api.Say, Exprs: x.Args[:1]}}))
	l := make([]api.Stmt, api.MaxStmts+1)
	for i := range l {
		l[i] = api.Stmt{Kind: api.Say, Exprs: x.Args[:1]}
	}
	refuses(t, in(l), api.ErrSize)
	folded(t, in(l[:api.MaxStmts]))
}
