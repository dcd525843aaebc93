package fold

import (
	"regexp"
	"slices"
	"strconv"
	"strings"
	"testing"

	"barbican/api"
	"barbican/eval"
	"barbican/names"
)

// die: numbers that look drawn, the same each time.
type die uint64

func (d *die) n(most int) int {
	*d = *d*3202034522624059733 + 4354685564936845319
	return int(uint64(*d>>33) % uint64(most))
}

func pick[T any](d *die, l []T) T { return l[d.n(len(l))] }

// drawn programs, and where in them a body stands.
type drawn struct {
	*die
	p []api.Unit
	u api.Unit
	f api.Func
}

// shape of a program of one to three units: all but the bodies.
func (d *drawn) shape() {
	d.p = nil
	for i := range 1 + d.n(3) {
		u := api.Unit{Name: []string{"a", "b", "c"}[(i+1)%3], Vars: []string{"x", "y", "a"}[:1+d.n(3)]}
		for k := range 1 + d.n(2) {
			u.Arrays = append(u.Arrays, api.Array{Name: []string{"v", "w"}[k], Size: 1 + d.n(10)})
		}
		for k := range 1 + d.n(3) {
			f := api.Func{Name: []string{"f", "g", "x"}[k], Open: d.n(4) > 0}
			f.Params = [][]string{{"p"}, {"p", "x"}, {"q", "p", "y"}, {"v", "x"}, nil}[d.n(5)]
			u.Funcs = append(u.Funcs, f)
		}
		d.p = append(d.p, u)
	}
}

func (d *drawn) program() []api.Unit {
	d.shape()
	for i, u := range d.p {
		for k, f := range u.Funcs {
			d.u, d.f = u, f
			d.p[i].Funcs[k].Body = d.stmts(1)
		}
	}
	return d.p
}

func (d *drawn) variable() string {
	return pick(d.die, slices.Concat(d.u.Vars, d.f.Params, d.f.Params))
}

func (d *drawn) word() int { return []int{0, 1, 2, 3, 40, 65535, d.n(65536)}[d.n(7)] }

func number(n int) api.Expr { return api.Expr{Kind: api.Number, N: n} }

// expr: half of them are numbers, so that much may be folded.
func (d *drawn) expr(depth int) api.Expr {
	k := d.n(16)
	if depth > 5 {
		k = d.n(7)
	}
	switch {
	case k < 5:
		return number(d.word())
	case k < 7:
		return api.Expr{Kind: api.Var, S: d.variable()}
	case k < 13:
		return api.Expr{Kind: api.Two, N: 1 + d.n(10), Args: []api.Expr{d.expr(depth + 1), d.expr(depth + 1)}}
	case k == 13:
		a := pick(d.die, d.u.Arrays)
		return api.Expr{Kind: api.Elem, S: a.Name, Args: []api.Expr{d.place(a, depth+1)}}
	default:
		return d.ask(depth)
	}
}

// place in an array, mostly one that it has.
func (d *drawn) place(a api.Array, depth int) api.Expr {
	if n := d.n(a.Size); d.n(6) > 0 {
		return api.Expr{Kind: api.Two, N: api.Xor, Args: []api.Expr{number(n ^ 21), number(21)}}
	}
	return d.expr(depth)
}

// ask one's own functions, or the open ones of all units.
func (d *drawn) ask(depth int) api.Expr {
	u := pick(d.die, d.p)
	x := api.Expr{Kind: api.Ask, Of: u.Name}
	f := pick(d.die, u.Funcs)
	if d.n(2) == 0 || !f.Open {
		x.Of, f = "", pick(d.die, d.u.Funcs)
	}
	x.S = f.Name
	for range f.Params {
		x.Args = append(x.Args, d.expr(depth+1))
	}
	return x
}

func (d *drawn) stmts(depth int) []api.Stmt {
	var l []api.Stmt
	for range d.n(5) {
		l = append(l, d.stmt(depth)...)
	}
	return l
}

// stmt: one, or two that make a loop that comes to its end, mostly.
func (d *drawn) stmt(depth int) []api.Stmt {
	k := d.n(11)
	if depth > 3 {
		k = d.n(6)
	}
	switch {
	case k < 2:
		return []api.Stmt{{Kind: api.Set, S: d.variable(), Exprs: []api.Expr{d.expr(1)}}}
	case k == 2:
		a := pick(d.die, d.u.Arrays)
		return []api.Stmt{{Kind: api.SetAt, S: a.Name, Exprs: []api.Expr{d.place(a, 2), d.expr(2)}}}
	case k < 5:
		return []api.Stmt{{Kind: api.Say, Exprs: []api.Expr{d.expr(2)}}}
	case k == 5:
		return []api.Stmt{{Kind: api.Return, Exprs: []api.Expr{d.expr(2)}}}
	case k < 8:
		return []api.Stmt{{Kind: api.If, Exprs: []api.Expr{d.expr(2)}, Body: d.stmts(depth + 1), Else: d.stmts(depth + 1)}}
	case k == 8:
		return []api.Stmt{{Kind: api.While, Exprs: []api.Expr{d.expr(3)}, Body: d.stmts(depth + 1)}}
	default:
		s := d.variable()
		v := api.Expr{Kind: api.Var, S: s}
		loop := api.Stmt{Kind: api.While, Exprs: []api.Expr{{Kind: api.Two, N: api.Lt, Args: []api.Expr{v, number([]int{1, 2, 5, 600}[d.n(4)])}}}, Body: d.stmts(depth + 1)}
		if d.n(3) == 0 { // some of them tell too much
			loop.Body = []api.Stmt{{Kind: api.Say, Exprs: []api.Expr{d.expr(11)}}}
		}
		loop.Body = append(loop.Body, api.Stmt{Kind: api.Set, S: s, Exprs: []api.Expr{{Kind: api.Two, N: api.Add, Args: []api.Expr{v, number(1)}}}})
		return []api.Stmt{{Kind: api.Set, S: s, Exprs: []api.Expr{number(0)}}, loop}
	}
}

// cells of a program.
func (d *drawn) cells(t *testing.T, p []api.Unit) []api.Cells {
	t.Helper()
	l, e := eval.Fresh(p)
	if e != api.OK {
		t.Fatalf("%v: refused with %d", p, int(e))
	}
	fill := func(words []int) {
		for i := range words {
			words[i] = d.word()
		}
	}
	for _, c := range l {
		fill(c.Vars)
		for _, words := range c.Arrays {
			fill(words)
		}
	}
	return l
}

// call of a function, over cells, with words, behind frames.
type call struct {
	l         []api.Cells
	unit, fun string
	args      []int
	deep      int
}

func (d *drawn) call(t *testing.T, p []api.Unit) call {
	t.Helper()
	u := pick(d.die, p)
	f := pick(d.die, u.Funcs)
	c := call{l: d.cells(t, p), unit: u.Name, fun: f.Name, deep: []int{0, 0, 0, d.n(20), 19}[d.n(5)]}
	for range f.Params {
		c.args = append(c.args, d.word())
	}
	return c
}

func (c call) of(t *testing.T, p []api.Unit, fuel int) (api.Outcome, string) {
	t.Helper()
	o, l, e := eval.Call(p, c.l, c.unit, c.fun, c.args, c.deep, fuel)
	if e != api.OK {
		t.Fatalf("%v of %v is refused with %d", c, p, int(e))
	}
	return o, told(o) + told(l)
}

// least fuel with which a call is not Spent: it is not with the most.
func (c call) least(t *testing.T, p []api.Unit, most int) int {
	t.Helper()
	from, to := 0, most
	for from < to {
		half := (from + to) / 2
		if o, _ := c.of(t, p, half); o.End == api.Spent {
			from = half + 1
		} else {
			to = half
		}
	}
	return to
}

// same: a call of the folded program ends as that of the program does, with all the fuel that this one needs, and with no more than that. It answers that end.
func (c call) same(t *testing.T, p, q []api.Unit, fuel int) int {
	t.Helper()
	o, want := c.of(t, p, fuel)
	n, got := c.of(t, q, fuel)
	if o.End == api.Spent {
		// Where the program comes to, the folded one comes too.
		if len(n.Told) < len(o.Told) || !slices.Equal(n.Told[:len(o.Told)], o.Told) {
			t.Fatalf("%v of %v tells %v, of %v %v", c, p, o.Told, q, n.Told)
		}
		return o.End
	}
	if got != want {
		t.Fatalf("%v of %v is %s, of %v %s", c, p, want, q, got)
	}
	if fuel = c.least(t, p, fuel); fuel < api.MaxFuel {
		if _, got := c.of(t, q, fuel); got != want {
			t.Fatalf("%v of %v is %s, of %v, with %d fuel, %s", c, p, want, q, fuel, got)
		}
	}
	return o.End
}

// P9.1: all functions of drawn programs do the same, with no more fuel.
func TestDrawnDoTheSame(t *testing.T) {
	d := drawn{die: new(die)}
	met := map[int]int{}
	for range 1200 {
		p := d.program()
		q := folded(t, p)
		for range 4 {
			met[d.call(t, p).same(t, p, q, []int{d.n(60), 400, 12000}[d.n(3)])]++
		}
	}
	for _, end := range []int{api.Done, api.Edge, api.Spent, api.Deep, api.Long} {
		if met[end] < 50 {
			t.Errorf("the end %d was met %d times", end, met[end])
		}
	}
}

var twoNumbers = regexp.MustCompile(`\((\d+) (\S+) (\d+)\)`)

// reckoned: what an operation of two numbers is, in words of the language itself.
func reckoned(s string) string {
	l := twoNumbers.FindStringSubmatch(s)
	a, _ := strconv.Atoi(l[1])
	b, _ := strconv.Atoi(l[3])
	x, y := uint16(a), uint16(b)
	truth := map[bool]uint16{true: 1}
	n := map[string]uint16{
		"+": x + y, "-": x - y, "*": x * y, "&": x & y, "|": x | y, "^": x ^ y,
		"<": truth[x < y], "==": truth[x == y], "<<": x << (y % 16), ">>": x >> (y % 16),
	}[l[2]]
	return strconv.Itoa(int(n))
}

// P9.1: drawn programs, folded as texts too: operations of two numbers are reckoned until there are none, and nothing else is another.
func TestDrawnAsTexts(t *testing.T) {
	d := drawn{die: new(die)}
	folds := 0
	for range 1200 {
		p := d.program()
		want := shown(t, p)
		for twoNumbers.MatchString(want) {
			want = twoNumbers.ReplaceAllStringFunc(want, reckoned)
			folds++
		}
		q := folded(t, p)
		if got := shown(t, q); got != want {
			t.Fatalf("%v becomes\n%s\nwant\n%s", p, got, want)
		}
		if again := folded(t, q); told(again) != told(q) {
			t.Fatalf("%v becomes, folded again, %v", q, again)
		}
	}
	if folds < 1200 {
		t.Errorf("there was something to fold %d times", folds)
	}
}

// P9.1: new memory, whatever the program is.
func TestDrawnAreApart(t *testing.T) {
	d := drawn{die: new(die)}
	for range 100 {
		apart(t, d.program())
	}
}

// P9.1: anything: none panics, and what names' Check refuses is refused in the same way.
func TestDrawnAnything(t *testing.T) {
	d := drawn{die: new(die)}
	met := map[api.Errno]int{}
	for range 2500 {
		d.program()
		for range d.n(3) {
			d.spoil(pick(d.die, nonWords))
		}
		want := names.Check(d.p)
		met[want]++
		if want == api.OK {
			folded(t, d.p)
		} else {
			refuses(t, d.p, want)
		}
	}
	for e := api.OK; e <= api.ErrCount; e++ {
		if met[e] < 10 {
			t.Errorf("the error %d was met %d times", int(e), met[e])
		}
	}
}

// spoil one thing of a program.
func (d *drawn) spoil(n int) {
	u := &d.p[d.n(len(d.p))]
	f := &u.Funcs[d.n(len(u.Funcs))]
	bad := api.Expr{Kind: api.Two, N: api.Add, Args: []api.Expr{number(1), number(2)}}
	switch d.n(12) {
	case 0:
		u.Name = []string{"", "a", "if", strings.Repeat("a", 9)}[d.n(4)]
	case 1:
		u.Arrays = append(u.Arrays, api.Array{Name: "z", Size: n})
	case 2:
		f.Body = append(f.Body, api.Stmt{Kind: n})
	case 3:
		f.Params = append(slices.Clone(f.Params), []string{"p", "q", "r", "R"}[d.n(4)])
	case 4:
		f.Body = slices.Repeat([]api.Stmt{{Kind: api.Say, Exprs: []api.Expr{bad}}}, 301)
	case 5:
		f.Body = append(f.Body, api.Stmt{Kind: api.Set, S: "z", Exprs: []api.Expr{bad}})
	case 6:
		u.Vars = append(slices.Clone(u.Vars), "x")
	case 7:
		bad.N = n
		f.Body = append(f.Body, api.Stmt{Kind: api.Say, Exprs: []api.Expr{bad}})
	case 8:
		bad.Args[d.n(2)] = number(n)
		f.Body = append(f.Body, api.Stmt{Kind: api.Say, Exprs: []api.Expr{bad}})
	case 9:
		bad.Args = bad.Args[:d.n(2)]
		f.Body = append(f.Body, api.Stmt{Kind: api.Say, Exprs: []api.Expr{bad}})
	case 10:
		f.Body = append(f.Body, api.Stmt{Kind: api.Say, Exprs: []api.Expr{{Kind: n, Args: bad.Args}}})
	case 11:
		f.Body = append(f.Body, api.Stmt{Kind: api.Say, Exprs: []api.Expr{{Kind: api.Ask, S: "f", Args: slices.Repeat([]api.Expr{bad}, 4)}}})
	}
}
