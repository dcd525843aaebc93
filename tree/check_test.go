package tree

import (
	"math"
	"slices"
	"strings"
	"testing"

	"barbican/api"
)

var wrongNames = append([]string{"", "0", "1a", "abcdefghi", "A", "a ", " a", "a\n", "é", "a.b", "\x00"}, keywords...)

var farOff = []int{math.MinInt, math.MinInt32, -65536, -1, 65536, 1 << 16, 1 << 31, 1<<32 + 1, math.MaxInt}

// nest an expression in others, so that it stands at a depth.
func nest(x api.Expr, depth int) api.Expr {
	for d := depth; d > 1; d-- {
		switch d % 4 {
		case 0:
			x = two(1, x, num(1))
		case 1:
			x = elem("a", x)
		case 2:
			x = two(2, num(1), x)
		default:
			x = ask("u", "f", num(0), x)
		}
	}
	return x
}

// inner: statements within others, so that they stand at a depth.
func inner(l []api.Stmt, depth int) []api.Stmt {
	for d := depth; d > 1; d-- {
		switch d % 3 {
		case 0:
			l = []api.Stmt{while(num(1), l...)}
		case 1:
			l = []api.Stmt{iff(num(1), l, nil)}
		default:
			l = []api.Stmt{say(num(1)), iff(num(1), []api.Stmt{say(num(2))}, l)}
		}
	}
	return l
}

// everywhere that an expression may stand in a unit: as any of a statement's, within any other one, in any body.
func everywhere(t *testing.T, x api.Expr, want api.Errno) {
	t.Helper()
	for _, s := range []api.Stmt{
		set("x", x), setAt("x", x, num(1)), setAt("x", num(1), x), iff(x, nil, nil), while(x), ret(x), say(x),
		say(elem("a", x)), say(ask("", "f", x)), say(ask("u", "f", num(1), num(2), num(3), x)), say(two(1, x, num(1))), say(two(1, num(1), x)),
	} {
		checked(t, unitOf(s), want)
		checked(t, unitOf(say(num(1)), s), want)
		checked(t, unitOf(iff(num(1), []api.Stmt{s}, nil)), want)
		checked(t, unitOf(iff(num(1), nil, []api.Stmt{s})), want)
		checked(t, unitOf(while(num(1), say(num(1)), s)), want)
	}
}

// P6.2
func TestExpressionsThatMayBe(t *testing.T) {
	for _, x := range []api.Expr{
		num(0), num(1), num(65534), num(65535), named("x"), named("abcdefgh"), {Kind: 2, S: "x", Args: []api.Expr{}},
		elem("a", num(1)), ask("", "f"), ask("", "f", num(1)), ask("u", "f", num(1), num(2), num(3), num(4)), ask("one", "one"),
		two(1, num(1), num(2)), two(5, named("x"), named("x")), two(10, num(1), num(2)),
	} {
		everywhere(t, x, 0)
	}
}

// P6.2
func TestExpressionKinds(t *testing.T) {
	for _, kind := range append([]int{0, 6, 7, -5}, farOff...) {
		everywhere(t, api.Expr{Kind: kind}, 3)
		everywhere(t, api.Expr{Kind: kind, N: 1, S: "x"}, 3)
		// ErrKind ahead of too many Args, of the form and of what is within.
		everywhere(t, api.Expr{Kind: kind, S: "1", Of: "1", N: -1, Args: make([]api.Expr, 5)}, 3)
	}
}

// P6.2
func TestExpressionForms(t *testing.T) {
	a := []api.Expr{num(1), num(2), num(3), num(4)}
	for _, x := range []api.Expr{
		{Kind: 1, N: 1, S: "x"}, {Kind: 1, N: 1, Of: "x"}, {Kind: 1, N: 1, Args: a[:1]}, {Kind: 1, Args: a[:4]},
		{Kind: 2}, {Kind: 2, S: "x", N: 1}, {Kind: 2, S: "x", N: -1}, {Kind: 2, S: "x", Of: "u"}, {Kind: 2, S: "x", Args: a[:1]}, {Kind: 2, S: "x", Args: a[:4]},
		{Kind: 3, S: "x"}, {Kind: 3, S: "x", Args: a[:2]}, {Kind: 3, S: "x", Args: a[:4]}, {Kind: 3, Args: a[:1]}, {Kind: 3, S: "x", N: 1, Args: a[:1]}, {Kind: 3, S: "x", Of: "u", Args: a[:1]},
		{Kind: 4}, {Kind: 4, S: "x", N: 1}, {Kind: 4, S: "x", N: -1, Args: a[:2]}, {Kind: 4, Of: "u"}, {Kind: 4, Args: a[:1]},
		{Kind: 5, N: 1}, {Kind: 5, N: 1, Args: a[:1]}, {Kind: 5, N: 1, Args: a[:3]}, {Kind: 5, N: 1, Args: a[:4]}, {Kind: 5, N: 1, S: "x", Args: a[:2]}, {Kind: 5, N: 1, Of: "x", Args: a[:2]},
	} {
		everywhere(t, x, 4)
	}
	for _, s := range wrongNames {
		everywhere(t, named(s), 4)
		everywhere(t, elem(s, num(1)), 4)
		everywhere(t, ask("", s), 4)
		everywhere(t, ask("u", s, num(1)), 4)
		if s != "" {
			everywhere(t, ask(s, "f", num(1)), 4)
		}
	}
}

// P6.2
func TestExpressionArgs(t *testing.T) {
	for kind := 1; kind <= 5; kind++ {
		for _, n := range []int{5, 6, 1000} {
			everywhere(t, api.Expr{Kind: kind, N: 1, S: "x", Of: "u", Args: slices.Repeat([]api.Expr{num(1)}, n)}, 1)
			// ErrSize ahead of the form, of the range and of what is within.
			everywhere(t, api.Expr{Kind: kind, N: -1, S: "1", Of: "1", Args: make([]api.Expr, n)}, 1)
		}
	}
}

// P6.2
func TestExpressionRanges(t *testing.T) {
	for _, n := range farOff {
		everywhere(t, num(n), 2)
		everywhere(t, two(n, num(1), num(2)), 2)
		everywhere(t, two(n, api.Expr{}, num(-1)), 2)
		everywhere(t, api.Expr{Kind: 1, N: n, S: "x"}, 4)
		everywhere(t, api.Expr{Kind: 5, N: n, Args: []api.Expr{{}}}, 4)
	}
	for n := range 70000 {
		want := api.Errno(0)
		if n > 65535 {
			want = 2
		}
		if got := Check(unitOf(say(num(n)))); got != want {
			t.Fatalf("the number %d: %d", n, int(got))
		}
		if want = 2; n >= 1 && n <= 10 {
			want = 0
		}
		if got := Check(unitOf(say(two(n, num(1), num(1))))); got != want {
			t.Fatalf("the operation %d: %d", n, int(got))
		}
	}
}

// P6.2
func TestExpressionDepths(t *testing.T) {
	leaf := []api.Expr{num(1), named("x"), ask("", "f"), ask("u", "f")}
	wrong := []api.Expr{{}, {Kind: 6}, {Kind: 1, Args: make([]api.Expr, 5)}, named("1"), num(-1)}
	wrongs := []api.Errno{3, 3, 1, 4, 2}
	for depth := 1; depth <= 40; depth++ {
		for i, x := range leaf {
			want := api.Errno(0)
			if depth > 12 {
				want = 1
			}
			checked(t, unitOf(say(nest(x, depth))), want)
			checked(t, unitOf(inner([]api.Stmt{setAt("x", num(0), nest(x, depth))}, 1+i)...), want)
		}
		for i, x := range wrong {
			want := wrongs[i]
			if depth > 12 {
				want = 1
			}
			checked(t, unitOf(say(nest(x, depth))), want)
		}
	}
}

// P6.2: one by one, each whole ahead of the next one.
func TestFirstOfArgs(t *testing.T) {
	deep := nest(num(1), 12)
	everywhere(t, two(1, num(-1), api.Expr{}), 2)
	everywhere(t, two(1, api.Expr{}, num(-1)), 3)
	everywhere(t, two(1, two(1, num(1), named("1")), num(-1)), 4)
	everywhere(t, ask("", "f", num(1), num(2), named("if"), num(-1)), 4)
	checked(t, unitOf(say(two(1, deep, api.Expr{}))), 1)
	checked(t, unitOf(say(two(1, api.Expr{}, deep))), 3)
	checked(t, unitOf(setAt("x", num(-1), api.Expr{})), 2)
	checked(t, unitOf(setAt("x", api.Expr{}, num(-1))), 3)
}

// P6.3
func TestUnitNames(t *testing.T) {
	for _, s := range wrongNames {
		checked(t, api.Unit{Name: s}, 4)
		checked(t, api.Unit{Name: s, Vars: make([]string, 9), Arrays: make([]api.Array, 4), Funcs: make([]api.Func, 9)}, 4)
		checked(t, api.Unit{Name: "u", Vars: []string{s}}, 4)
		checked(t, api.Unit{Name: "u", Vars: []string{"x", s}, Arrays: []api.Array{{Name: "a"}}}, 4)
		checked(t, api.Unit{Name: "u", Arrays: []api.Array{{Name: s, Size: 1}}}, 4)
		checked(t, api.Unit{Name: "u", Arrays: []api.Array{{Name: "a", Size: 10}, {Name: s, Size: 0}}}, 4)
		checked(t, api.Unit{Name: "u", Funcs: []api.Func{{Name: s}}}, 4)
		checked(t, api.Unit{Name: "u", Funcs: []api.Func{{Name: s, Params: make([]string, 5)}}}, 4)
		checked(t, api.Unit{Name: "u", Funcs: []api.Func{{Name: "f", Params: []string{s}}}}, 4)
		checked(t, api.Unit{Name: "u", Funcs: []api.Func{{Name: "f", Params: []string{"p", "q", "r", s}, Body: []api.Stmt{{}}}}}, 4)
	}
	// Names may be the same here: that is asked elsewhere.
	checked(t, api.Unit{Name: "x", Vars: []string{"x", "x"}, Arrays: []api.Array{{Name: "x", Size: 1}}, Funcs: []api.Func{{Name: "x", Params: []string{"x", "x"}}, {Name: "x"}}}, 0)
}

// P6.3
func TestUnitSizes(t *testing.T) {
	for n := range 12 {
		vars, arrays, funcs := slices.Repeat([]string{"x"}, n), slices.Repeat([]api.Array{{Name: "a", Size: 1}}, n), slices.Repeat([]api.Func{{Name: "f"}}, n)
		within := func(most int) api.Errno {
			if n > most {
				return 1
			}
			return 0
		}
		checked(t, api.Unit{Name: "u", Vars: vars}, within(8))
		checked(t, api.Unit{Name: "u", Arrays: arrays}, within(3))
		checked(t, api.Unit{Name: "u", Funcs: funcs}, within(8))
		checked(t, api.Unit{Name: "u", Funcs: []api.Func{{Name: "f", Params: vars}}}, within(4))
		checked(t, api.Unit{Name: "u", Funcs: []api.Func{{Name: "f"}, {Name: "f", Open: true, Params: vars}}}, within(4))
	}
	// Too many of one of them is told ahead of what is wrong with any of them.
	checked(t, api.Unit{Name: "u", Vars: make([]string, 9)}, 1)
	checked(t, api.Unit{Name: "u", Vars: []string{""}, Arrays: make([]api.Array, 4)}, 1)
	checked(t, api.Unit{Name: "u", Vars: []string{""}, Arrays: make([]api.Array, 1), Funcs: make([]api.Func, 9)}, 1)
	checked(t, api.Unit{Name: "u", Vars: []string{""}, Arrays: make([]api.Array, 3), Funcs: make([]api.Func, 8)}, 4)
	checked(t, api.Unit{Name: "u", Funcs: []api.Func{{Name: "f", Params: make([]string, 5), Body: []api.Stmt{{}}}}}, 1)
}

// P6.3
func TestArraySizes(t *testing.T) {
	for _, n := range append([]int{0, 11, 12, 100, 65535}, farOff...) {
		checked(t, api.Unit{Name: "u", Arrays: []api.Array{{Name: "a", Size: n}}}, 2)
		checked(t, api.Unit{Name: "u", Arrays: []api.Array{{Name: "a", Size: 1}, {Name: "b", Size: n}}, Funcs: []api.Func{{}}}, 2)
		// One by one: the first one's size ahead of the second one's name.
		checked(t, api.Unit{Name: "u", Arrays: []api.Array{{Name: "a", Size: n}, {Name: "", Size: 1}}}, 2)
	}
	for n := 1; n <= 10; n++ {
		checked(t, api.Unit{Name: "u", Arrays: []api.Array{{Name: "a", Size: n}, {Name: "b", Size: 11 - n}}}, 0)
	}
}

// P6.3: functions one by one, each with its body ahead of the next one.
func TestFirstOfFuncs(t *testing.T) {
	bad := api.Func{Name: "f", Body: []api.Stmt{{}}}
	checked(t, api.Unit{Name: "u", Funcs: []api.Func{bad, {Name: ""}}}, 3)
	checked(t, api.Unit{Name: "u", Funcs: []api.Func{{Name: ""}, bad}}, 4)
	checked(t, api.Unit{Name: "u", Funcs: []api.Func{{Name: "f", Params: make([]string, 5)}, bad}}, 1)
	checked(t, api.Unit{Name: "u", Funcs: []api.Func{{Name: "f", Params: []string{"if"}}, bad}}, 4)
	checked(t, api.Unit{Name: "u", Funcs: []api.Func{{Name: "f"}, {Name: "g", Open: true}, bad}}, 3)
}

// stmtEverywhere: a statement in any body of any function.
func stmtEverywhere(t *testing.T, s api.Stmt, want api.Errno) {
	t.Helper()
	for _, l := range [][]api.Stmt{
		{s}, {say(num(1)), s}, {s, {}}, {iff(num(1), []api.Stmt{s}, nil)}, {iff(num(1), nil, []api.Stmt{s})}, {while(num(1), say(num(2)), s)},
		{iff(num(1), []api.Stmt{s}, []api.Stmt{{}})}, inner([]api.Stmt{s}, 10),
	} {
		if want == 0 && len(l) == 2 && l[1].Kind == 0 {
			l = l[:1]
		}
		if want == 0 && l[0].Kind == 3 && len(l[0].Else) == 1 && l[0].Else[0].Kind == 0 {
			continue
		}
		checked(t, unitOf(l...), want)
		u := unitOf(l...)
		u.Funcs = append([]api.Func{{Name: "g", Body: []api.Stmt{ret(num(1))}}}, u.Funcs...)
		checked(t, u, want)
	}
}

// P6.3
func TestStatementsThatMayBe(t *testing.T) {
	for _, s := range []api.Stmt{
		set("x", num(1)), setAt("a", num(1), num(2)), iff(num(1), nil, nil), iff(num(1), []api.Stmt{}, []api.Stmt{}), iff(num(1), []api.Stmt{say(num(1))}, nil), iff(num(1), nil, []api.Stmt{say(num(1))}),
		while(num(1)), while(num(1), say(num(1)), ret(num(1))), ret(num(1)), say(num(1)), {Kind: 6, Exprs: []api.Expr{num(1)}, Body: []api.Stmt{}, Else: []api.Stmt{}},
	} {
		stmtEverywhere(t, s, 0)
	}
}

// P6.3
func TestStatementKinds(t *testing.T) {
	for _, kind := range append([]int{0, 7, 8, -6}, farOff...) {
		stmtEverywhere(t, api.Stmt{Kind: kind}, 3)
		stmtEverywhere(t, api.Stmt{Kind: kind, S: "x", Exprs: []api.Expr{num(1)}}, 3)
		stmtEverywhere(t, api.Stmt{Kind: kind, S: "1", Exprs: []api.Expr{{}, {}, {}}, Body: []api.Stmt{say(num(-1))}, Else: []api.Stmt{say(num(-1))}}, 3)
	}
}

// P6.3: what a kind has not is in no form, ahead of all that is within.
func TestStatementForms(t *testing.T) {
	l, wrong := []api.Stmt{say(num(1))}, []api.Stmt{{}}
	for kind := 1; kind <= 6; kind++ {
		s := api.Stmt{Kind: kind, Exprs: []api.Expr{num(1)}}
		if kind <= 2 {
			s.S = "x"
		}
		if kind == 2 {
			s.Exprs = append(s.Exprs, num(2))
		}
		stmtEverywhere(t, s, 0)
		for n := range 6 {
			if c := s; n != len(s.Exprs) {
				c.Exprs = slices.Repeat([]api.Expr{num(1)}, n)
				stmtEverywhere(t, c, 4)
				c.Exprs = make([]api.Expr, n)
				stmtEverywhere(t, c, 4)
			}
		}
		for _, name := range append([]string{"x"}, wrongNames...) {
			c := s
			c.S = name
			want := api.Errno(4)
			if kind <= 2 && name == "x" || kind > 2 && name == "" {
				want = 0
			}
			stmtEverywhere(t, c, want)
		}
		for _, body := range [][]api.Stmt{l, wrong} {
			c := s
			c.Body = body
			stmtEverywhere(t, c, orForm(kind == 3 || kind == 4, body))
			c = s
			c.Else = body
			stmtEverywhere(t, c, orForm(kind == 3, body))
		}
	}
}

// orForm: the error of a body, if there may be one.
func orForm(may bool, body []api.Stmt) api.Errno {
	if !may {
		return 4
	}
	if body[0].Kind == 0 {
		return 3
	}
	return 0
}

// P6.3: a statement's Exprs, then its Body, then its Else; then the next one.
func TestFirstOfStatements(t *testing.T) {
	kind, form, far, size := []api.Stmt{{}}, []api.Stmt{set("", num(1))}, []api.Stmt{say(num(-1))}, []api.Stmt{say(nest(num(1), 13))}
	checked(t, unitOf(iff(num(-1), kind, form)), 2)
	checked(t, unitOf(iff(named("1"), kind, far)), 4)
	checked(t, unitOf(iff(num(1), kind, form)), 3)
	checked(t, unitOf(iff(num(1), form, kind)), 4)
	checked(t, unitOf(iff(num(1), nil, form), api.Stmt{}), 4)
	checked(t, unitOf(iff(num(1), nil, far), api.Stmt{}), 2)
	checked(t, unitOf(iff(num(1), size, far), api.Stmt{}), 1)
	checked(t, unitOf(while(num(1), far...), api.Stmt{}), 2)
	checked(t, unitOf(while(num(-1), kind...), api.Stmt{}), 2)
	checked(t, unitOf(say(num(1)), api.Stmt{}, say(num(-1))), 3)
	checked(t, unitOf(say(num(1)), say(num(-1)), api.Stmt{}), 2)
}

// P6.3: statements are looked at down to the depth 12; there each one's Body, at 13, is too deep, also where it holds none.
func TestStatementDepths(t *testing.T) {
	for depth := 1; depth <= 60; depth++ {
		want := api.Errno(0)
		if depth > 11 {
			want = 1
		}
		for _, s := range []api.Stmt{
			set("x", num(1)), setAt("x", num(1), num(1)), iff(num(1), nil, nil), while(num(1)), ret(num(1)), say(nest(num(1), 12)),
			{Kind: 6, Exprs: []api.Expr{num(1)}, Body: []api.Stmt{}, Else: []api.Stmt{}}, iff(num(1), []api.Stmt{}, []api.Stmt{}),
		} {
			checked(t, unitOf(inner([]api.Stmt{s}, depth)...), want)
		}
		if want = 0; depth > 12 {
			want = 1
		}
		checked(t, unitOf(inner(nil, depth)...), want)
		checked(t, unitOf(inner([]api.Stmt{}, depth)...), want)
	}
	// Depths of statements and of expressions are told apart, and bodies side by side are equally deep.
	checked(t, unitOf(inner([]api.Stmt{say(nest(num(1), 13))}, 11)...), 1)
	checked(t, unitOf(append(inner([]api.Stmt{say(num(1))}, 11), inner([]api.Stmt{say(num(1))}, 11)...)...), 0)
	checked(t, unitOf(append(inner([]api.Stmt{say(num(1))}, 12), api.Stmt{})...), 1)
	checked(t, unitOf(append([]api.Stmt{{}}, inner([]api.Stmt{say(num(1))}, 12)...)...), 3)
}

// P6.3: what is wrong with a statement at the depth 12 is told ahead of its Body's being too deep, and that ahead of the next statement; below that nothing is looked at.
func TestFirstOfTooDeep(t *testing.T) {
	wrong := []api.Stmt{{}, {Kind: 7}, set("", num(1)), set("if", num(1)), {Kind: 6}, say(api.Expr{}), say(named("1")), say(num(-1)), iff(num(-1), []api.Stmt{{}}, nil), {Kind: 5, Exprs: []api.Expr{num(1)}, Body: []api.Stmt{{}}}}
	wrongs := []api.Errno{3, 3, 4, 4, 4, 3, 4, 2, 2, 4}
	for i, s := range wrong {
		for depth := 1; depth <= 20; depth++ {
			want := wrongs[i]
			if depth > 12 {
				want = 1
			}
			checked(t, unitOf(inner([]api.Stmt{s}, depth)...), want)
			checked(t, unitOf(inner([]api.Stmt{s, say(num(1))}, depth)...), want)
			if depth > 11 {
				want = 1
			}
			checked(t, unitOf(inner([]api.Stmt{say(num(1)), s}, depth)...), want)
			checked(t, unitOf(inner([]api.Stmt{iff(num(1), nil, []api.Stmt{s})}, depth)...), want)
			checked(t, unitOf(inner([]api.Stmt{while(num(1), s)}, depth)...), want)
		}
	}
}

// P6.3: of all functions, and of all bodies, and told at last.
func TestMaxStmts(t *testing.T) {
	many := func(n int) []api.Stmt { return slices.Repeat([]api.Stmt{say(num(1))}, n) }
	checked(t, unitOf(many(300)...), 0)
	checked(t, unitOf(many(301)...), 1)
	checked(t, unitOf(while(num(1), many(299)...)), 0)
	checked(t, unitOf(while(num(1), many(300)...)), 1)
	checked(t, unitOf(iff(num(1), many(99), many(200))), 0)
	checked(t, unitOf(iff(num(1), many(100), many(200))), 1)
	checked(t, unitOf(iff(num(1), many(99), many(201))), 1)
	checked(t, unitOf(while(num(1), while(num(1), many(298)...))), 0)
	checked(t, unitOf(while(num(1), while(num(1), many(299)...))), 1)
	checked(t, api.Unit{Name: "u", Funcs: []api.Func{{Name: "f", Body: many(100)}, {Name: "g", Body: many(150)}, {Name: "h", Body: many(50)}}}, 0)
	checked(t, api.Unit{Name: "u", Funcs: []api.Func{{Name: "f", Body: many(100)}, {Name: "g", Body: many(150)}, {Name: "h", Body: many(51)}}}, 1)
	checked(t, unitOf(append(many(301), api.Stmt{})...), 3)
	checked(t, unitOf(append(many(301), say(num(-1)))...), 2)
	checked(t, api.Unit{Name: "u", Funcs: []api.Func{{Name: "f", Body: many(301)}, {Name: ""}}}, 4)
	checked(t, unitOf(many(1<<20)...), 1)
}

// What is handed in stays as it was, spare room too.
func TestCheckAndShowChangeNothing(t *testing.T) {
	spare := append(make([]api.Stmt, 0, 8), say(two(1, num(1), num(2))), while(named("x"), say(num(3))))
	vars := append(make([]string, 0, 4), "x", "y")
	u := unitOf(spare...)
	u.Vars, u.Funcs[0].Params = vars, vars
	before := told(u)
	checked(t, u, 0)
	if told(u) != before || told(unitOf(spare[:8]...)) != told(unitOf(append(slices.Clone(spare), make([]api.Stmt, 6)...)...)) || strings.Join(vars[:4], "-") != "x-y--" {
		t.Errorf("changed: %s", told(u))
	}
}
