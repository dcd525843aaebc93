package gen

import (
	"math"
	"slices"
	"strings"
	"testing"

	"barbican/api"
	"barbican/eval"
	"barbican/names"
)

// die: numbers that look drawn, the same each time.
type die uint64

func (d *die) n(most int) int {
	*d = *d*3202034522624059733 + 4354685564936845319
	return int(uint64(*d>>33) % uint64(most))
}

func pick[T any](d *die, l []T) T { return l[d.n(len(l))] }

// drawn programs, and where in them a body stands.
type drawn struct {
	*die
	p []api.Unit
	u api.Unit
	f api.Func
}

// shape of a program: all but the bodies.
func (d *drawn) shape(units int) {
	d.p = nil
	for i := range units {
		u := api.Unit{Name: []string{"a", "b", "c", "d"}[(i+1)%4], Vars: []string{"x", "y", "a"}[:1+d.n(3)]}
		for k := range 1 + d.n(3) {
			u.Arrays = append(u.Arrays, api.Array{Name: []string{"v", "w", "p"}[k], Size: 1 + d.n(10)})
		}
		for k := range 1 + d.n(5) {
			f := api.Func{Name: []string{"f", "g", "x", "h", "v"}[k], Open: d.n(3) > 0}
			f.Params = [][]string{{"p"}, {"p", "x"}, {"q", "p", "y"}, {"v", "x", "w", "p"}, nil}[d.n(5)]
			u.Funcs = append(u.Funcs, f)
		}
		d.p = append(d.p, u)
	}
}

// program with at most so many statements one behind the other.
func (d *drawn) program(units, stmts int) []api.Unit {
	d.shape(units)
	for i, u := range d.p {
		for k, f := range u.Funcs {
			d.u, d.f = u, f
			d.p[i].Funcs[k].Body = d.stmts(1, stmts)
		}
	}
	return d.p
}

// small program: one of at most so great a size.
func (d *drawn) small(size int) []api.Unit {
	for {
		if p := d.program(1+d.n(4), 1+d.n(5)); sizeOf(p) <= size {
			return p
		}
	}
}

func (d *drawn) variable() string {
	return pick(d.die, slices.Concat(d.u.Vars, d.f.Params, d.f.Params))
}

func (d *drawn) word() int { return []int{0, 1, 2, 3, 40, 65535, d.n(65536)}[d.n(7)] }

func number(n int) api.Expr { return api.Expr{Kind: api.Number, N: n} }

func two(op int, a, b api.Expr) api.Expr {
	return api.Expr{Kind: api.Two, N: op, Args: []api.Expr{a, b}}
}

func (d *drawn) expr(depth int) api.Expr {
	k := d.n(16)
	if depth > 5 {
		k = d.n(8)
	}
	switch {
	case k < 4:
		return number(d.word())
	case k < 8:
		return api.Expr{Kind: api.Var, S: d.variable()}
	case k < 11:
		return two(1+d.n(10), d.expr(depth+1), d.expr(depth+1))
	case k < 14:
		a := pick(d.die, d.u.Arrays)
		return api.Expr{Kind: api.Elem, S: a.Name, Args: []api.Expr{d.place(a, depth+1)}}
	default:
		return d.ask(depth)
	}
}

// place in an array, mostly one that it has, or that is just beyond its edge.
func (d *drawn) place(a api.Array, depth int) api.Expr {
	if n := d.n(a.Size + d.n(12)/11); depth < 11 && d.n(5) > 0 {
		return two(api.And, api.Expr{Kind: api.Var, S: d.variable()}, number(n&(1<<d.n(5)-1)))
	} else if d.n(5) > 0 {
		return number(n)
	}
	return d.expr(depth)
}

// ask one's own functions, or the open ones of all units.
func (d *drawn) ask(depth int) api.Expr {
	u := pick(d.die, d.p)
	x := api.Expr{Kind: api.Ask, Of: u.Name}
	f := pick(d.die, u.Funcs)
	if d.n(3) == 0 || !f.Open {
		x.Of, f = "", pick(d.die, d.u.Funcs)
	}
	x.S = f.Name
	for range f.Params {
		x.Args = append(x.Args, d.expr(depth+1))
	}
	return x
}

func (d *drawn) stmts(depth, most int) []api.Stmt {
	var l []api.Stmt
	for range d.n(most + 1) {
		l = append(l, d.stmt(depth, most)...)
	}
	return l
}

// stmt: one, or two that make a loop that comes to its end, mostly.
func (d *drawn) stmt(depth, most int) []api.Stmt {
	k := d.n(13)
	if depth > 3 {
		k = d.n(8)
	}
	one := []api.Expr{d.expr(2)}
	switch {
	case k < 2:
		return []api.Stmt{{Kind: api.Set, S: d.variable(), Exprs: one}}
	case k < 5:
		a := pick(d.die, d.u.Arrays)
		return []api.Stmt{{Kind: api.SetAt, S: a.Name, Exprs: []api.Expr{d.place(a, 2), d.expr(2)}}}
	case k < 7:
		return []api.Stmt{{Kind: api.Say, Exprs: one}}
	case k == 7:
		return []api.Stmt{{Kind: api.Return, Exprs: one}}
	case k < 10:
		return []api.Stmt{{Kind: api.If, Exprs: one, Body: d.stmts(depth+1, most), Else: d.stmts(depth+1, most)}}
	case k == 10:
		return []api.Stmt{{Kind: api.While, Exprs: one, Body: d.stmts(depth+1, most)}}
	default:
		return d.loop(depth, most)
	}
}

func (d *drawn) loop(depth, most int) []api.Stmt {
	s := d.variable()
	v := api.Expr{Kind: api.Var, S: s}
	loop := api.Stmt{Kind: api.While, Exprs: []api.Expr{two(api.Lt, v, number([]int{1, 2, 5, 600}[d.n(4)]))}, Body: d.stmts(depth+1, most)}
	if d.n(3) == 0 { // some of them tell too much
		loop.Body = []api.Stmt{{Kind: api.Say, Exprs: []api.Expr{v}}}
	}
	loop.Body = append(loop.Body, api.Stmt{Kind: api.Set, S: s, Exprs: []api.Expr{two(api.Add, v, number(1))}})
	return []api.Stmt{{Kind: api.Set, S: s, Exprs: []api.Expr{number(0)}}, loop}
}

// call of a function of the program, over drawn cells.
func (d *drawn) call(t *testing.T) call {
	t.Helper()
	u := pick(d.die, d.p)
	f := pick(d.die, u.Funcs)
	l, e := eval.Fresh(d.p)
	if e != api.OK {
		t.Fatalf("%v: refused with %d", d.p, int(e))
	}
	for _, c := range l {
		for _, words := range append(c.Arrays, c.Vars) {
			for i := range words {
				words[i] = d.word()
			}
		}
	}
	c := call{p: d.p, l: l, unit: u.Name, fun: f.Name}
	for range f.Params {
		c.args = append(c.args, d.word())
	}
	return c
}

// enough fuel for a call, so that a run of it is not without any: no unit of fuel is for more than ten steps.
const enough = api.MaxFuel / 10

// does what is called, with so many frames ahead. It answers the end.
func (c call) does(t *testing.T, m api.Image, frames int) int {
	t.Helper()
	want := c.called(t, frames, enough)
	by := c
	if frames > 0 {
		u := names.Unit(c.p, c.unit)
		m = behind(m, frames, u, entryOf(c.p[u], c.fun), c.args)
		by.p = append(c.p[:len(c.p):len(c.p)], api.Unit{Name: "by", Funcs: []api.Func{{Name: "f", Open: true}}})
		by.unit, by.fun, by.args = "by", "f", nil
	}
	got := by.run(t, m, flat(c.l))
	if want.end == api.Spent {
		if len(got.told) < len(want.told) || !slices.Equal(got.told[:len(want.told)], want.told) {
			t.Fatalf("Run of %v tells %v; Call %v", c, got.told, want.told)
		}
	} else if got.String() != want.String() {
		t.Fatalf("Run of %v behind %d frames is %v, want %v", c, frames, got, want)
	}
	return want.end
}

// P10.1: drawn programs of at most the size 100 are never refused, and all their functions do what they should, with any number of frames ahead.
func TestDrawnDoTheSame(t *testing.T) {
	d := drawn{die: new(die)}
	met := map[int]int{}
	for range 2500 {
		m := image(t, d.small(100))
		for range 4 {
			met[d.call(t).does(t, m, []int{0, 0, 0, d.n(20), 18}[d.n(5)])]++
		}
	}
	for _, end := range []int{api.Done, api.Edge, api.Spent, api.Deep, api.Long} {
		if met[end] < 50 {
			t.Errorf("the end %d was met %d times", end, met[end])
		}
	}
	if len(met) != 5 {
		t.Errorf("other ends were met: %v", met)
	}
}

// P10.1: drawn programs of any size: one that is refused is greater than 100, all others do what they should.
func TestDrawnGreatOnes(t *testing.T) {
	d := drawn{die: new(die)}
	refused, great := 0, 0
	for range 1000 {
		p := d.program(1+d.n(4), 2+d.n(6))
		if names.Check(p) != api.OK {
			continue
		}
		if !codeOfAll(t, p) {
			refused++
			continue
		}
		if sizeOf(p) > 500 {
			great++
		}
		m := image(t, p)
		for range 4 {
			d.call(t).does(t, m, 0)
		}
	}
	if refused < 20 || great < 20 {
		t.Errorf("%d were refused, %d great ones not", refused, great)
	}
}

// codeOfAll units of a program: is there any?
func codeOfAll(t *testing.T, p []api.Unit) bool {
	t.Helper()
	for i := range p {
		if _, _, e := Unit(p, i, 0); e == api.ErrSize && sizeOf(p) > 100 {
			return false
		} else if e != api.OK {
			t.Fatalf("Unit(%v, %d, 0) is refused with %d", p, i, int(e))
		}
	}
	return true
}

// nonWords lie beyond both edges, near them and far off; the lowest bits of some look like a word.
var nonWords = []int{
	math.MinInt, math.MinInt32, -65536, -65535, -16, -1,
	65536, 65537, 65551, 1 << 31, 1<<32 + 1, math.MaxInt - 1, math.MaxInt,
}

// P10.1: anything: none panics, and each is refused as it should be.
func TestDrawnAnything(t *testing.T) {
	d := drawn{die: new(die)}
	met := map[api.Errno]int{}
	for range 4000 {
		p := d.small(100)
		u, base := d.n(len(p)), d.n(100)
		for range d.n(3) {
			d.spoil(pick(d.die, nonWords))
		}
		if d.n(8) == 0 {
			u = pick(d.die, append(nonWords, len(p)))
		}
		if d.n(8) == 0 {
			base = pick(d.die, append(nonWords, 200, 220, 240, 245, 250, 251))
		}
		want := wanted(d.p, u, base)
		met[want]++
		if want == api.OK {
			made(t, d.p, u, base)
		} else {
			refuses(t, d.p, u, base, want)
		}
	}
	for e := api.OK; e <= api.ErrCount; e++ {
		if met[e] < 10 {
			t.Errorf("the error %d was met %d times", int(e), met[e])
		}
	}
}

// wanted: how a program is refused, which is too small to be too much.
func wanted(p []api.Unit, u, base int) api.Errno {
	if e := names.Check(p); e != api.OK {
		return e
	}
	if !slices.Contains([]int{0, 1, 2, 3, 4}[:len(p)], u) {
		return api.ErrNone
	}
	free := api.MaxData - len(p[u].Vars)
	for _, a := range p[u].Arrays {
		free -= a.Size
	}
	for n := range free + 1 {
		if n == base {
			return api.OK
		}
	}
	return api.ErrRange
}

// spoil one thing of a program.
func (d *drawn) spoil(n int) {
	u := &d.p[d.n(len(d.p))]
	f := &u.Funcs[d.n(len(u.Funcs))]
	say := func(x api.Expr) { f.Body = append(f.Body, api.Stmt{Kind: api.Say, Exprs: []api.Expr{x}}) }
	switch d.n(11) {
	case 0:
		u.Name = []string{"", "a", "if", strings.Repeat("a", 9)}[d.n(4)]
	case 1:
		u.Arrays = append(u.Arrays[:1:1], api.Array{Name: "z", Size: n})
	case 2:
		f.Body = append(f.Body, api.Stmt{Kind: n})
	case 3:
		f.Params = append(slices.Clone(f.Params), []string{"p", "q", "r", "R"}[d.n(4)])
	case 4:
		f.Body = slices.Repeat([]api.Stmt{{Kind: api.Say, Exprs: []api.Expr{number(1)}}}, 301)
	case 5:
		f.Body = append(f.Body, api.Stmt{Kind: api.Set, S: "z", Exprs: []api.Expr{number(1)}})
	case 6:
		u.Vars = append(slices.Clone(u.Vars), "x")
	case 7:
		say(two(n, number(1), number(2)))
	case 8:
		say(number(n))
	case 9:
		say(api.Expr{Kind: n})
	case 10:
		say(api.Expr{Kind: api.Ask, Of: []string{"", "a", "b", "z"}[d.n(4)], S: "f", Args: slices.Repeat([]api.Expr{number(3)}, d.n(5))})
	}
}
