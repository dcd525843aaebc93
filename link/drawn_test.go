package link

import (
	"slices"
	"testing"

	"barbican/api"
	"barbican/eval"
	"barbican/mach"
	"barbican/names"
)

// die: numbers that look drawn, the same each time.
type die uint64

func (d *die) n(most int) int {
	*d = *d*3202034522624059733 + 4354685564936845319
	return int(uint64(*d>>33) % uint64(most))
}

func pick[T any](d *die, l []T) T { return l[d.n(len(l))] }

// drawn programs, and where in them a body stands.
type drawn struct {
	*die
	p []api.Unit
	u api.Unit
	f api.Func
}

// shape of a program: all but the bodies. The first function of each unit is open.
func (d *drawn) shape(units int) {
	d.p = nil
	for i := range units {
		u := api.Unit{Name: []string{"a", "b", "c", "d", "e"}[(i+1)%5], Vars: []string{"x", "y", "a"}[:1+d.n(3)]}
		for k := range 1 + d.n(3) {
			u.Arrays = append(u.Arrays, api.Array{Name: []string{"v", "w", "p"}[k], Size: 1 + d.n(10)})
		}
		for k := range 1 + d.n(5) {
			f := api.Func{Name: []string{"f", "g", "x", "h", "v"}[k], Open: k == 0 || d.n(3) > 0}
			f.Params = [][]string{{"p"}, {"p", "x"}, {"q", "p", "y"}, {"v", "x", "w", "p"}, nil}[d.n(5)]
			u.Funcs = append(u.Funcs, f)
		}
		d.p = append(d.p, u)
	}
}

// program with at most so many statements one behind the other.
func (d *drawn) program(units, stmts int) []api.Unit {
	d.shape(units)
	for i, u := range d.p {
		for k, f := range u.Funcs {
			d.u, d.f = u, f
			d.p[i].Funcs[k].Body = d.stmts(1, stmts)
		}
	}
	return d.p
}

// small program: one of at most so great a size.
func (d *drawn) small(units, size int) []api.Unit {
	for {
		if p := d.program(units, 1+d.n(4)); sizeOf(p) <= size {
			return p
		}
	}
}

func (d *drawn) variable() string {
	return pick(d.die, slices.Concat(d.u.Vars, d.f.Params, d.f.Params))
}

func (d *drawn) word() int { return []int{0, 1, 2, 3, 40, 65535, d.n(65536)}[d.n(7)] }

func number(n int) api.Expr { return api.Expr{Kind: api.Number, N: n} }

func two(op int, a, b api.Expr) api.Expr {
	return api.Expr{Kind: api.Two, N: op, Args: []api.Expr{a, b}}
}

func (d *drawn) expr(depth int) api.Expr {
	k := d.n(16)
	if depth > 5 {
		k = d.n(8)
	}
	switch {
	case k < 4:
		return number(d.word())
	case k < 8:
		return api.Expr{Kind: api.Var, S: d.variable()}
	case k < 11:
		return two(1+d.n(10), d.expr(depth+1), d.expr(depth+1))
	case k < 14:
		a := pick(d.die, d.u.Arrays)
		return api.Expr{Kind: api.Elem, S: a.Name, Args: []api.Expr{d.place(a, depth+1)}}
	default:
		return d.ask(depth)
	}
}

// place in an array, mostly one that it has, or that is just beyond its edge.
func (d *drawn) place(a api.Array, depth int) api.Expr {
	if d.n(5) > 0 {
		return number(d.n(a.Size + d.n(12)/11))
	}
	return d.expr(depth)
}

// ask one's own functions, or the open ones of all units.
func (d *drawn) ask(depth int) api.Expr {
	u := pick(d.die, d.p)
	x := api.Expr{Kind: api.Ask, Of: u.Name}
	f := pick(d.die, u.Funcs)
	if d.n(3) == 0 || !f.Open {
		x.Of, f = "", pick(d.die, d.u.Funcs)
	}
	x.S = f.Name
	for range f.Params {
		x.Args = append(x.Args, d.expr(depth+1))
	}
	return x
}

func (d *drawn) stmts(depth, most int) []api.Stmt {
	var l []api.Stmt
	for range d.n(most + 1) {
		l = append(l, d.stmt(depth, most)...)
	}
	return l
}

// stmt: one, or two that make a loop that comes to its end, mostly.
func (d *drawn) stmt(depth, most int) []api.Stmt {
	k := d.n(13)
	if depth > 3 {
		k = d.n(8)
	}
	one := []api.Expr{d.expr(2)}
	switch {
	case k < 2:
		return []api.Stmt{{Kind: api.Set, S: d.variable(), Exprs: one}}
	case k < 5:
		a := pick(d.die, d.u.Arrays)
		return []api.Stmt{{Kind: api.SetAt, S: a.Name, Exprs: []api.Expr{d.place(a, 2), d.expr(2)}}}
	case k < 7:
		return []api.Stmt{{Kind: api.Say, Exprs: one}}
	case k == 7:
		return []api.Stmt{{Kind: api.Return, Exprs: one}}
	case k < 10:
		return []api.Stmt{{Kind: api.If, Exprs: one, Body: d.stmts(depth+1, most), Else: d.stmts(depth+1, most)}}
	case k == 10:
		return []api.Stmt{{Kind: api.While, Exprs: one, Body: d.stmts(depth+1, most)}}
	default:
		return d.loop(depth, most)
	}
}

func (d *drawn) loop(depth, most int) []api.Stmt {
	s := d.variable()
	v := api.Expr{Kind: api.Var, S: s}
	loop := api.Stmt{Kind: api.While, Exprs: []api.Expr{two(api.Lt, v, number([]int{1, 2, 5, 600}[d.n(4)]))}, Body: d.stmts(depth+1, most)}
	if d.n(3) == 0 { // some of them tell too much
		loop.Body = []api.Stmt{{Kind: api.Say, Exprs: []api.Expr{v}}}
	}
	loop.Body = append(loop.Body, api.Stmt{Kind: api.Set, S: s, Exprs: []api.Expr{two(api.Add, v, number(1))}})
	return []api.Stmt{{Kind: api.Set, S: s, Exprs: []api.Expr{number(0)}}, loop}
}

// cells of the program, with drawn words.
func (d *drawn) cells(t *testing.T) []api.Cells {
	t.Helper()
	l := fresh(t, d.p)
	for _, c := range l {
		for _, some := range append(c.Arrays, c.Vars) {
			for i := range some {
				some[i] = d.word()
			}
		}
	}
	return l
}

func (d *drawn) args(n int) []int {
	var l []int
	for range n {
		l = append(l, d.word())
	}
	return l
}

// enough fuel for a call, so that a run of it is not without any: no unit of fuel is for more than ten steps.
const enough = api.MaxFuel / 10

// runs: calls of the program's entries, one behind the other, each over the cells that the one ahead of it left. It answers how they end.
func (d *drawn) runs(t *testing.T, m api.Image, times int) []int {
	t.Helper()
	var met []int
	l := d.cells(t)
	data := words(t, d.p, l)
	for range times {
		u := d.n(len(d.p))
		y := d.n(len(open(d.p[u])))
		f := open(d.p[u])[y]
		args := d.args(len(f.Params))
		want, next, e := eval.Call(d.p, l, d.p[u].Name, f.Name, args, 0, enough)
		if e != api.OK {
			t.Fatalf("Call of %v is refused with %d", d.p, int(e))
		}
		met = append(met, want.End)
		o, e := mach.Run(m, data, u, y, args, api.MaxFuel)
		if e != api.OK {
			t.Fatalf("Run of %v is refused with %d", m, int(e))
		}
		if want.End == api.Spent {
			return met
		}
		l = next
		got := told([]any{o.End, o.Value, o.Told, o.Data})
		if says := told([]any{want.End, want.Value, want.Told, words(t, d.p, l)}); got != says {
			t.Fatalf("Run of %v, the entry %d of %d with %v, is %s, want %s", d.p, y, u, args, got, says)
		}
		data = o.Data
	}
	return met
}

// outlineOf a program: what an image of it must be like.
func outlineOf(p []api.Unit) api.Image {
	var m api.Image
	from := 0
	for _, u := range p {
		x := api.Part{From: from, To: from + len(u.Vars)}
		for _, a := range u.Arrays {
			x.To += a.Size
		}
		for _, f := range u.Funcs {
			if f.Open {
				x.Entries = append(x.Entries, api.Entry{Params: len(f.Params)})
			}
		}
		m.Parts = append(m.Parts, x)
		from = x.To
	}
	return m
}

// P11.1, P11.2: drawn programs of at most the size 100 are never refused, and runs of their images do what they should.
func TestDrawnDoTheSame(t *testing.T) {
	d := drawn{die: new(die)}
	met := map[int]int{}
	for range 2000 {
		p := d.small(1+d.n(5), 100)
		m := linked(t, p)
		if got := outline(m); got != outline(outlineOf(p)) {
			t.Fatalf("%v: %s", p, got)
		}
		for _, end := range d.runs(t, m, 4) {
			met[end]++
		}
	}
	for _, end := range []int{api.Done, api.Edge, api.Spent, api.Deep, api.Long} {
		if met[end] < 40 {
			t.Errorf("the end %d was met %d times", end, met[end])
		}
	}
	if len(met) != 5 {
		t.Errorf("other ends were met: %v", met)
	}
}

// P11.1: drawn programs of any size: one that is refused is greater than 100, all others do what they should.
func TestDrawnGreatOnes(t *testing.T) {
	d := drawn{die: new(die)}
	refused, great := 0, 0
	for range 800 {
		p := d.program(1+d.n(4), 2+d.n(6))
		if names.Check(p) != api.OK {
			continue
		}
		if _, e := Program(p); e != api.OK {
			if sizeOf(p) <= 100 {
				t.Fatalf("Program(%v) is refused with %d", p, int(e))
			}
			refuses(t, p, api.ErrSize)
			refused++
			continue
		}
		if sizeOf(p) > 500 {
			great++
		}
		d.runs(t, linked(t, p), 3)
	}
	if refused < 20 || great < 20 {
		t.Errorf("%d were refused, %d great ones not", refused, great)
	}
}
