package eval

import (
	"fmt"
	"math"
	"slices"
	"testing"

	"barbican/api"
	"barbican/names"
	"barbican/word"
)

// model does what a call does another way than the program: all that is still to be done stands in one list, values in another, and words are found by the paths that lead to them. Nothing calls itself, and nothing is thrown.
type model struct {
	p      []api.Unit
	words  map[string]*int // "unit.x", "unit.a.2", and, of params, "3/x" in the frame 3
	sizes  map[string]int  // of "unit.a"
	frames []modelFrame
	todo   []func() // the last one is the next
	values []int
	told   []int
	fuel   int
	deep   int
	made   int // frames so far
	end    int
	value  int
}

type modelFrame struct {
	unit  string
	name  string // of the frame, in paths
	below int    // how many things are to be done when it is gone
	vals  int    // how many values stand ahead of its own
}

func newModel(p []api.Unit, l []api.Cells, deep, fuel int) *model {
	m := &model{p: p, words: map[string]*int{}, sizes: map[string]int{}, deep: deep, fuel: fuel}
	for i, u := range p {
		for k, s := range u.Vars {
			m.put(u.Name+"."+s, l[i].Vars[k])
		}
		for k, a := range u.Arrays {
			m.sizes[u.Name+"."+a.Name] = a.Size
			for at, n := range l[i].Arrays[k] {
				m.put(fmt.Sprint(u.Name, ".", a.Name, ".", at), n)
			}
		}
	}
	return m
}

func (m *model) put(path string, n int) { m.words[path] = &n }

func (m *model) cells() []api.Cells {
	var l []api.Cells
	for _, u := range m.p {
		var c api.Cells
		for _, s := range u.Vars {
			c.Vars = append(c.Vars, *m.words[u.Name+"."+s])
		}
		for _, a := range u.Arrays {
			var words []int
			for at := range a.Size {
				words = append(words, *m.words[fmt.Sprint(u.Name, ".", a.Name, ".", at)])
			}
			c.Arrays = append(c.Arrays, words)
		}
		l = append(l, c)
	}
	return l
}

func (m *model) run(unit, fun string, args []int) (api.Outcome, []api.Cells) {
	m.enter(unit, fun, args)
	for m.end == 0 {
		next := m.todo[len(m.todo)-1]
		m.todo = m.todo[:len(m.todo)-1]
		next()
	}
	return api.Outcome{End: m.end, Value: m.value, Told: m.told}, m.cells()
}

// do things, the first of them next.
func (m *model) do(l ...func()) {
	slices.Reverse(l)
	m.todo = append(m.todo, l...)
}

// burning: a thing that takes a unit of fuel first.
func (m *model) burning(f func()) func() {
	return func() {
		if m.fuel == 0 {
			m.end = api.Spent
			return
		}
		m.fuel--
		f()
	}
}

func (m *model) pop() int {
	n := m.values[len(m.values)-1]
	m.values = m.values[:len(m.values)-1]
	return n
}

func (m *model) push(n int) { m.values = append(m.values, n) }

func (m *model) top() modelFrame { return m.frames[len(m.frames)-1] }

func (m *model) enter(unit, fun string, args []int) {
	if m.deep+len(m.frames) == 20 {
		m.end = api.Deep
		return
	}
	m.made++
	f := modelFrame{unit: unit, name: fmt.Sprint(m.made, "/"), below: len(m.todo), vals: len(m.values)}
	m.frames = append(m.frames, f)
	u := m.p[slices.IndexFunc(m.p, func(u api.Unit) bool { return u.Name == unit })]
	g := u.Funcs[slices.IndexFunc(u.Funcs, func(f api.Func) bool { return f.Name == fun })]
	for i, s := range g.Params {
		m.put(f.name+s, args[i])
	}
	m.do(m.stmts(g.Body), func() { m.leave(0) })
}

func (m *model) leave(n int) {
	f := m.top()
	m.frames, m.todo, m.values = m.frames[:len(m.frames)-1], m.todo[:f.below], m.values[:f.vals]
	if len(m.frames) == 0 {
		m.end, m.value = api.Done, n
		return
	}
	m.push(n)
}

func (m *model) word(name string) *int {
	if w := m.words[m.top().name+name]; w != nil {
		return w
	}
	return m.words[m.top().unit+"."+name]
}

// element at a place; nil, and the end, if there is none.
func (m *model) element(name string, at int) *int {
	path := m.top().unit + "." + name
	if at >= m.sizes[path] {
		m.end = api.Edge
	}
	return m.words[fmt.Sprint(path, ".", at)]
}

func (m *model) stmts(l []api.Stmt) func() {
	return func() {
		var all []func()
		for _, s := range l {
			all = append(all, m.burning(func() { m.stmt(s) }))
		}
		m.do(all...)
	}
}

func (m *model) stmt(s api.Stmt) {
	switch s.Kind {
	case api.Set:
		m.do(m.expr(s.Exprs[0]), func() { *m.word(s.S) = m.pop() })
	case api.SetAt:
		m.do(m.expr(s.Exprs[0]), m.expr(s.Exprs[1]), func() {
			n := m.pop()
			if w := m.element(s.S, m.pop()); w != nil {
				*w = n
			}
		})
	case api.If:
		m.do(m.expr(s.Exprs[0]), func() {
			if m.pop() == 0 {
				m.do(m.stmts(s.Else))
			} else {
				m.do(m.stmts(s.Body))
			}
		})
	case api.While: // to ask again is to do it again: that takes as much
		m.do(m.expr(s.Exprs[0]), func() {
			if m.pop() != 0 {
				m.do(m.stmts(s.Body), m.burning(func() { m.stmt(s) }))
			}
		})
	case api.Return:
		m.do(m.expr(s.Exprs[0]), func() { m.leave(m.pop()) })
	case api.Say:
		m.do(m.expr(s.Exprs[0]), func() {
			if n := m.pop(); len(m.told) == 500 {
				m.end = api.Long
			} else {
				m.told = append(m.told, n)
			}
		})
	}
}

func (m *model) expr(x api.Expr) func() {
	return m.burning(func() {
		var all []func()
		for _, a := range x.Args {
			all = append(all, m.expr(a))
		}
		m.do(append(all, func() { m.reckon(x) })...)
	})
}

// reckon what an expression is, its Args being the last values.
func (m *model) reckon(x api.Expr) {
	cut := len(m.values) - len(x.Args)
	args := slices.Clone(m.values[cut:])
	m.values = m.values[:cut]
	switch x.Kind {
	case api.Number:
		m.push(x.N)
	case api.Var:
		m.push(*m.word(x.S))
	case api.Elem:
		if w := m.element(x.S, args[0]); w != nil {
			m.push(*w)
		}
	case api.Ask:
		unit := x.Of
		if unit == "" {
			unit = m.top().unit
		}
		m.enter(unit, x.S, args)
	case api.Two:
		n, _ := word.Do(x.N, args[0], args[1])
		m.push(n)
	}
}

// die: numbers that look drawn, the same each time.
type die uint64

func (d *die) n(most int) int {
	*d = *d*3202034522624059733 + 4354685564936845319
	return int(uint64(*d>>33) % uint64(most))
}

func pick[T any](d *die, l []T) T { return l[d.n(len(l))] }

// drawn programs, and where in them a body stands.
type drawn struct {
	*die
	p []api.Unit
	u api.Unit
	f api.Func
}

// shape of a program of one to three units: all but the bodies.
func (d *drawn) shape() {
	d.p = nil
	for i := range 1 + d.n(3) {
		u := api.Unit{Name: []string{"a", "b", "c"}[(i+1)%3], Vars: []string{"x", "y", "a"}[:1+d.n(3)]}
		for k := range 1 + d.n(2) {
			u.Arrays = append(u.Arrays, api.Array{Name: []string{"v", "w"}[k], Size: 1 + d.n(10)})
		}
		for k := range 1 + d.n(3) {
			f := api.Func{Name: []string{"f", "g", "x"}[k], Open: d.n(4) > 0}
			f.Params = [][]string{{"p"}, {"p", "x"}, {"q", "p", "y"}, {"v", "x"}, nil}[d.n(5)]
			u.Funcs = append(u.Funcs, f)
		}
		d.p = append(d.p, u)
	}
}

func (d *drawn) program() []api.Unit {
	d.shape()
	for i, u := range d.p {
		for k, f := range u.Funcs {
			d.u, d.f = u, f
			d.p[i].Funcs[k].Body = d.stmts(1)
		}
	}
	return d.p
}

func (d *drawn) variable() string {
	return pick(d.die, slices.Concat(d.u.Vars, d.f.Params, d.f.Params))
}

func (d *drawn) array() api.Array { return pick(d.die, d.u.Arrays) }

// place in an array, mostly one that it has.
func (d *drawn) place(a api.Array, depth int) api.Expr {
	if d.n(6) > 0 {
		return number(d.n(a.Size))
	}
	return d.expr(depth)
}

func number(n int) api.Expr { return api.Expr{Kind: api.Number, N: n} }

func (d *drawn) expr(depth int) api.Expr {
	k := d.n(14)
	if depth > 4 {
		k = d.n(7)
	}
	switch {
	case k < 3:
		return number([]int{0, 1, 2, 3, 40, 65535}[d.n(6)])
	case k < 7:
		return api.Expr{Kind: api.Var, S: d.variable()}
	case k < 11:
		return api.Expr{Kind: api.Two, N: 1 + d.n(10), Args: []api.Expr{d.expr(depth + 1), d.expr(depth + 1)}}
	case k == 11:
		a := d.array()
		return api.Expr{Kind: api.Elem, S: a.Name, Args: []api.Expr{d.place(a, depth+1)}}
	default:
		return d.ask(depth)
	}
}

// ask one's own functions, or the open ones of all units.
func (d *drawn) ask(depth int) api.Expr {
	u := pick(d.die, d.p)
	x := api.Expr{Kind: api.Ask, Of: u.Name}
	f := pick(d.die, u.Funcs)
	if d.n(2) == 0 || !f.Open {
		x.Of, f = "", pick(d.die, d.u.Funcs)
	}
	x.S = f.Name
	for range f.Params {
		x.Args = append(x.Args, d.expr(depth+1))
	}
	return x
}

func (d *drawn) stmts(depth int) []api.Stmt {
	var l []api.Stmt
	for range d.n(5) {
		l = append(l, d.stmt(depth)...)
	}
	return l
}

// stmt: one, or two that make a loop that comes to its end, mostly.
func (d *drawn) stmt(depth int) []api.Stmt {
	k := d.n(11)
	if depth > 3 {
		k = d.n(6)
	}
	switch {
	case k < 2:
		return []api.Stmt{{Kind: api.Set, S: d.variable(), Exprs: []api.Expr{d.expr(1)}}}
	case k == 2:
		a := d.array()
		return []api.Stmt{{Kind: api.SetAt, S: a.Name, Exprs: []api.Expr{d.place(a, 2), d.expr(2)}}}
	case k < 5:
		return []api.Stmt{{Kind: api.Say, Exprs: []api.Expr{d.expr(2)}}}
	case k == 5:
		return []api.Stmt{{Kind: api.Return, Exprs: []api.Expr{d.expr(2)}}}
	case k < 8:
		return []api.Stmt{{Kind: api.If, Exprs: []api.Expr{d.expr(2)}, Body: d.stmts(depth + 1), Else: d.stmts(depth + 1)}}
	case k == 8:
		return []api.Stmt{{Kind: api.While, Exprs: []api.Expr{d.expr(3)}, Body: d.stmts(depth + 1)}}
	default:
		s := d.variable()
		v := api.Expr{Kind: api.Var, S: s}
		most := []int{1, 2, 5, 600}[d.n(4)]
		loop := api.Stmt{Kind: api.While, Exprs: []api.Expr{{Kind: api.Two, N: api.Lt, Args: []api.Expr{v, number(most)}}}, Body: d.stmts(depth + 1)}
		loop.Body = append(loop.Body, api.Stmt{Kind: api.Set, S: s, Exprs: []api.Expr{{Kind: api.Two, N: api.Add, Args: []api.Expr{v, number(1)}}}})
		return []api.Stmt{{Kind: api.Set, S: s, Exprs: []api.Expr{number(0)}}, loop}
	}
}

// cells of a program.
func (d *drawn) cells(t *testing.T) []api.Cells {
	t.Helper()
	l, e := Fresh(d.p)
	if e != api.OK {
		t.Fatalf("%v: refused with %d", d.p, int(e))
	}
	for _, words := range lists(l) {
		for i := range words {
			words[i] = []int{0, 1, 2, 65535, d.n(65536)}[d.n(5)]
		}
	}
	return l
}

func (d *drawn) asked(t *testing.T) asked {
	t.Helper()
	d.program()
	u := pick(d.die, d.p)
	f := pick(d.die, u.Funcs)
	a := asked{p: d.p, l: d.cells(t), unit: u.Name, fun: f.Name, deep: []int{0, 0, 0, d.n(20), 19}[d.n(5)], fuel: []int{d.n(60), 400, 5000, 20000}[d.n(4)]}
	for range f.Params {
		a.args = append(a.args, []int{0, 1, 5, d.n(65536)}[d.n(4)])
	}
	return a
}

// P8.2 to P8.4: drawn calls, done by the program and by the model.
func TestDrawnCalls(t *testing.T) {
	d := drawn{die: new(die)}
	met := map[int]int{}
	for range 6000 {
		a := d.asked(t)
		want, cells := newModel(a.p, a.l, a.deep, a.fuel).run(a.unit, a.fun, a.args)
		got, l := a.called(t)
		if told(got) != told(want) || told(l) != told(cells) {
			t.Fatalf("Call(%v) = %v, %v; want %v, %v", a, got, l, want, cells)
		}
		met[got.End]++
	}
	for _, end := range []int{api.Done, api.Edge, api.Spent, api.Deep, api.Long} {
		if met[end] < 50 {
			t.Errorf("the end %d was met %d times", end, met[end])
		}
	}
	if len(met) != 5 {
		t.Errorf("other ends were met: %v", met)
	}
}

// modelRefuses: what is wrong with a call, each thing asked by itself, and the first of them told.
func modelRefuses(a asked) api.Errno {
	words := func(l []int) bool {
		return !slices.ContainsFunc(l, func(n int) bool { return n < 0 || n > 65535 })
	}
	shape := func(l []api.Cells) (s string, ok bool) {
		ok = true
		for _, c := range l {
			s += fmt.Sprint("/", len(c.Vars))
			ok = ok && words(c.Vars)
			for _, w := range c.Arrays {
				s += fmt.Sprint(" ", len(w))
				ok = ok && words(w)
			}
		}
		return s, ok
	}
	if e := names.Check(a.p); e != api.OK {
		return e
	}
	f, _ := Fresh(a.p)
	want, _ := shape(f)
	if got, ok := shape(a.l); got != want || !ok {
		return api.ErrState
	}
	takes := map[string]int{}
	for _, u := range a.p {
		for _, f := range u.Funcs {
			takes[u.Name+"."+f.Name] = len(f.Params) + 1
		}
	}
	n := takes[a.unit+"."+a.fun]
	switch {
	case n == 0:
		return api.ErrNone
	case n != len(a.args)+1:
		return api.ErrCount
	case a.deep < 0 || a.deep > 19 || a.fuel < 0 || a.fuel > 100000 || !words(a.args):
		return api.ErrRange
	}
	return api.OK
}

// P8.2: calls of anything: none panics, each is refused as it should be, and what is refused answers nothing.
func TestCallOfAnything(t *testing.T) {
	d := drawn{die: new(die)}
	met := map[api.Errno]int{}
	odd := slices.Concat(nonWords, far, []int{0, 1, 19, 20, 65535, 100000, math.MinInt})
	for range 6000 {
		a := d.asked(t)
		a.fuel = min(a.fuel, 500)
		for range d.n(3) {
			d.spoil(&a, pick(d.die, odd))
		}
		want := modelRefuses(a)
		met[want]++
		if want == api.OK {
			a.called(t)
		} else {
			a.refused(t, want)
		}
		if got := CheckStores(a.p, a.l); (got != api.OK) != (names.Check(a.p) != api.OK || want == api.ErrState) || got != api.OK && got != want {
			t.Fatalf("CheckStores(%v, %v): %d; Call: %d", a.p, a.l, int(got), int(want))
		}
	}
	for e := api.OK; e <= api.ErrState; e++ {
		if met[e] < 10 {
			t.Errorf("the error %d was met %d times", int(e), met[e])
		}
	}
}

// spoil one thing of a call.
func (d *drawn) spoil(a *asked, n int) {
	u := &a.p[d.n(len(a.p))]
	c := &a.l[d.n(max(1, len(a.l)-1))]
	f := &u.Funcs[d.n(len(u.Funcs))]
	switch d.n(16) {
	case 0:
		a.unit = []string{"", "a", "d", "x"}[d.n(4)]
	case 1:
		a.fun = []string{"", "f", "v", "p"}[d.n(4)]
	case 2:
		a.args = append(a.args, n)
	case 3:
		a.args = nil
	case 4, 5:
		a.deep = n
	case 6:
		a.fuel = min(n, 100001)
	case 7:
		if len(c.Vars) > 0 {
			c.Vars[0] = n
		}
	case 8:
		c.Vars = append(c.Vars, 0)
	case 9:
		if len(c.Arrays) > 0 {
			c.Arrays[0] = append(c.Arrays[0][:0:0], n)
		}
	case 10:
		a.l = append(a.l, api.Cells{})
	case 11:
		u.Name = []string{"", "a", "if"}[d.n(3)]
	case 12:
		u.Arrays = append(u.Arrays, api.Array{Name: "z", Size: n})
	case 13:
		f.Body = append(f.Body, api.Stmt{Kind: n % 8})
	case 14:
		f.Params = append(slices.Clone(f.Params), []string{"p", "q", "r"}[d.n(3)])
	case 15:
		f.Body = slices.Repeat([]api.Stmt{{Kind: api.Say, Exprs: []api.Expr{number(n)}}}, 1+300*d.n(2))
	}
}
