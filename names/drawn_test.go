package names

import (
	"fmt"
	"math/rand"
	"slices"
	"strings"
	"testing"

	"barbican/api"
	"barbican/tree"
)

// The model works answers out another way than the program does: all names of a program stand in one table, by the paths that lead to them, and all that is named in it in one line, in the order in which it is asked for.

// table of a program: paths, such as "one.f()" or "one.x", and how many things have each of them.
type table map[string]int

// params: how many the first function at each path takes.
type params map[string]int

// asked of the table: paths, with how many args if it is a call; or an error that is there already.
type asked struct {
	paths []string // one of them is there
	args  int      // -1: no call
	wrong api.Errno
}

func modelTable(p []api.Unit) (table, params) {
	t, n := table{}, params{}
	for _, u := range p {
		t[u.Name]++
		for _, s := range u.Vars {
			t[u.Name+".var "+s]++
			t[u.Name+".word "+s]++
		}
		for _, a := range u.Arrays {
			t[u.Name+".array "+a.Name]++
			t[u.Name+".word "+a.Name]++
		}
		for i, f := range u.Funcs {
			path := u.Name + ".func " + f.Name
			if t[path]++; t[path] == 1 {
				n[path] = len(f.Params)
				if f.Open {
					t["gate "+path]++
				}
			}
			for _, s := range f.Params {
				t[fmt.Sprint(u.Name, ".", i, ".var ", s)]++
			}
		}
	}
	return t, n
}

// line of all that is asked in a program, once its units may be.
func modelLine(p []api.Unit, t table) []asked {
	var line []asked
	wrong := func(is bool, e api.Errno) {
		if is {
			line = append(line, asked{wrong: e})
		}
	}
	words := 0
	for _, u := range p {
		wrong(t[u.Name] > 1, 6)
		words += len(u.Vars)
		for _, a := range u.Arrays {
			words += a.Size
		}
	}
	wrong(words > 250, 1)
	for _, u := range p {
		for path, n := range t {
			wrong(n > 1 && (strings.HasPrefix(path, u.Name+".word ") || strings.HasPrefix(path, u.Name+".func ")), 6)
		}
		for i, f := range u.Funcs {
			for _, s := range f.Params {
				wrong(t[fmt.Sprint(u.Name, ".", i, ".var ", s)] > 1, 6)
			}
			line = append(line, modelBody(u.Name, fmt.Sprint(u.Name, ".", i), f.Body)...)
		}
	}
	return line
}

// modelBody: what still stands ahead waits on a stack, the last thing first.
func modelBody(unit, fun string, body []api.Stmt) []asked {
	var line []asked
	var stack []any
	push := func(l []api.Stmt) {
		for _, s := range slices.Backward(l) {
			stack = append(stack, s)
		}
	}
	pushExprs := func(l []api.Expr) {
		for _, x := range slices.Backward(l) {
			stack = append(stack, x)
		}
	}
	ask := func(args int, paths ...string) { line = append(line, asked{paths: paths, args: args}) }
	push(body)
	for len(stack) > 0 {
		top := stack[len(stack)-1]
		stack = stack[:len(stack)-1]
		switch x := top.(type) {
		case api.Stmt:
			push(x.Else)
			push(x.Body)
			pushExprs(x.Exprs)
			if x.Kind == 1 {
				ask(-1, fun+".var "+x.S, unit+".var "+x.S)
			}
			if x.Kind == 2 {
				ask(-1, unit+".array "+x.S)
			}
		case api.Expr:
			pushExprs(x.Args)
			switch {
			case x.Kind == 2:
				ask(-1, fun+".var "+x.S, unit+".var "+x.S)
			case x.Kind == 3:
				ask(-1, unit+".array "+x.S)
			case x.Kind == 4 && x.Of == "":
				ask(len(x.Args), unit+".func "+x.S)
			case x.Kind == 4:
				ask(len(x.Args), "gate "+x.Of+".func "+x.S)
			}
		}
	}
	return line
}

func modelCheck(p []api.Unit) api.Errno {
	if len(p) > 5 {
		return 1
	}
	for _, u := range p {
		if e := tree.Check(u); e != 0 {
			return e
		}
	}
	t, n := modelTable(p)
	for _, a := range modelLine(p, t) {
		if a.wrong != 0 {
			return a.wrong
		}
		i := slices.IndexFunc(a.paths, func(s string) bool { return t[s] > 0 })
		if i < 0 {
			return 5
		}
		if a.args >= 0 && n[strings.TrimPrefix(a.paths[i], "gate ")] != a.args {
			return 7
		}
	}
	return 0
}

// draw programs: names come from what is there, but for now and then.
type draw struct {
	*rand.Rand
	p    []api.Unit
	u    api.Unit
	f    api.Func
	slip int // once in so many names another one is taken; 0: never
}

var pool = strings.Fields("a b c d e f x y")

func (d *draw) distinct(most int) []string {
	l := slices.Clone(pool)
	d.Shuffle(len(l), func(i, k int) { l[i], l[k] = l[k], l[i] })
	return l[:d.Intn(most+1)]
}

func (d *draw) from(l []string) string {
	if len(l) == 0 || d.slip > 0 && d.Intn(d.slip) == 0 {
		return pool[d.Intn(len(pool))]
	}
	return l[d.Intn(len(l))]
}

// shape of a program: all but the bodies.
func (d *draw) shape() {
	d.p = nil
	for _, name := range d.distinct(5) {
		u := api.Unit{Name: name}
		words := d.distinct(8)
		cut := d.Intn(len(words) + 1)
		cut = max(cut, len(words)-3)
		u.Vars = slices.Clone(words[:cut])
		for _, s := range words[cut:] {
			u.Arrays = append(u.Arrays, api.Array{Name: s, Size: 1 + d.Intn(10)})
		}
		for _, s := range d.distinct(4) {
			u.Funcs = append(u.Funcs, api.Func{Name: s, Open: d.Intn(3) > 0, Params: slices.Clone(d.distinct(4))})
		}
		d.p = append(d.p, u)
	}
}

func (d *draw) vars() []string { return append(slices.Clone(d.u.Vars), d.f.Params...) }

func (d *draw) arrays() []string {
	var l []string
	for _, a := range d.u.Arrays {
		l = append(l, a.Name)
	}
	return l
}

func (d *draw) ask(depth int) api.Expr {
	of := d.u
	x := api.Expr{Kind: 4}
	if d.Intn(2) == 0 {
		of = d.p[d.Intn(len(d.p))]
		x.Of = d.from([]string{of.Name})
	}
	var l []api.Func
	for _, f := range of.Funcs {
		if x.Of == "" || f.Open {
			l = append(l, f)
		}
	}
	if len(l) == 0 {
		return api.Expr{Kind: 1, N: d.Intn(9)}
	}
	f := l[d.Intn(len(l))]
	x.S = d.from([]string{f.Name})
	n := len(f.Params)
	if d.slip > 0 && d.Intn(d.slip) == 0 {
		n = d.Intn(5)
	}
	x.Args = d.exprs(n, depth+1)
	return x
}

func (d *draw) exprs(n, depth int) []api.Expr {
	var l []api.Expr
	for range n {
		l = append(l, d.expr(depth))
	}
	return l
}

func (d *draw) expr(depth int) api.Expr {
	k := d.Intn(8)
	vars, arrays := d.vars(), d.arrays()
	switch {
	case k < 3 && len(vars) > 0:
		return api.Expr{Kind: 2, S: d.from(vars)}
	case k == 3 && depth < 4 && len(arrays) > 0:
		return api.Expr{Kind: 3, S: d.from(arrays), Args: d.exprs(1, depth+1)}
	case k < 6 && depth < 4:
		return d.ask(depth)
	case k == 6 && depth < 4:
		return api.Expr{Kind: 5, N: 1 + d.Intn(10), Args: d.exprs(2, depth+1)}
	}
	return api.Expr{Kind: 1, N: d.Intn(65536)}
}

func (d *draw) stmts(depth int) []api.Stmt {
	var l []api.Stmt
	for range d.Intn(4) {
		vars, arrays := d.vars(), d.arrays()
		k := 1 + d.Intn(6)
		s := api.Stmt{Kind: k, Exprs: d.exprs(1, 1)}
		switch {
		case k == 1 && len(vars) > 0:
			s.S = d.from(vars)
		case k == 2 && len(arrays) > 0:
			s.S, s.Exprs = d.from(arrays), d.exprs(2, 1)
		case k == 3 && depth < 4:
			s.Body, s.Else = d.stmts(depth+1), d.stmts(depth+1)
		case k == 4 && depth < 4:
			s.Body = d.stmts(depth + 1)
		case k < 5:
			s.Kind = 6
		}
		l = append(l, s)
	}
	return l
}

func (d *draw) program(slip int) []api.Unit {
	d.slip = slip
	d.shape()
	for i := range d.p {
		d.u = d.p[i]
		for k := range d.u.Funcs {
			d.f = d.u.Funcs[k]
			d.p[i].Funcs[k].Body = d.stmts(1)
		}
	}
	return d.p
}

// hurt a program in its heads: a name, an Open, or a list that is shorter or longer than it was.
func (d *draw) hurt(p []api.Unit) []api.Unit {
	name := pool[d.Intn(len(pool))]
	if len(p) == 0 || d.Intn(12) == 0 {
		return append(p, api.Unit{Name: name})
	}
	u := &p[d.Intn(len(p))]
	switch k := d.Intn(8); {
	case k == 0:
		u.Name = name
	case k == 1 && len(u.Vars) > 0:
		u.Vars[d.Intn(len(u.Vars))] = name
	case k == 2 && len(u.Arrays) > 0:
		u.Arrays[d.Intn(len(u.Arrays))] = api.Array{Name: name, Size: d.Intn(12)}
	case k > 2 && len(u.Funcs) > 0:
		f := &u.Funcs[d.Intn(len(u.Funcs))]
		switch {
		case k == 3:
			f.Name = name
		case k == 4:
			f.Open = !f.Open
		case k == 5 && len(f.Params) > 0:
			f.Params[d.Intn(len(f.Params))] = name
		case k == 6 && len(f.Params) > 0:
			f.Params = f.Params[1:]
		case k == 7:
			u.Funcs = append(u.Funcs, *f)
		}
	}
	return p
}

// P7.2
func TestDrawnPrograms(t *testing.T) {
	d := &draw{Rand: rand.New(rand.NewSource(7))}
	seen := map[api.Errno]int{}
	for i := range 16000 {
		slip := []int{0, 3, 30, 100}[i%4]
		p := d.program(slip)
		if slip == 0 && Check(p) != 0 {
			t.Fatalf("%+v may be: %v", p, Check(p))
		}
		for range i / 4 % 4 {
			p = d.hurt(p)
		}
		got, want := Check(p), modelCheck(p)
		seen[want]++
		if got != want {
			t.Fatalf("%+v: %v, want %d", p, got, want)
		}
	}
	for e, least := range map[api.Errno]int{0: 3000, 1: 30, 2: 30, 5: 500, 6: 500, 7: 300} {
		if seen[e] < least {
			t.Errorf("%v came %d times alone: %v", e, seen[e], seen)
		}
	}
}

// P7.1
func TestDrawnPlaces(t *testing.T) {
	d := &draw{Rand: rand.New(rand.NewSource(71))}
	for range 5000 {
		p := d.hurt(d.hurt(d.program(0)))
		var units, funcs []string
		for _, u := range p {
			units = append(units, u.Name)
		}
		for _, f := range p[0].Funcs {
			funcs = append(funcs, f.Name)
		}
		for _, s := range pool {
			if got, want := Unit(p, s), slices.Index(units, s); got != want {
				t.Fatalf("Unit(%q, %q): %d, want %d", units, s, got, want)
			}
			if got, want := Func(p[0], s), slices.Index(funcs, s); got != want {
				t.Fatalf("Func(%q, %q): %d, want %d", funcs, s, got, want)
			}
		}
	}
}
