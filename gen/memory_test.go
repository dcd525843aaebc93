package gen

import (
	"slices"
	"testing"

	"barbican/api"
)

const everything = "unit one var x array a 3 open f(p) { x = g(p, 1); a[x] = a[p]; if x { say p; } else { return two.h(1, x, p, a[1]); } while x { x = (x - 1); } } func g(p, q) { return f((p + q)); }"

// filled with what no code has: an answer with its spare room, written over.
func filled(code []api.Instr, begins []int) {
	code, begins = code[:cap(code)], begins[:cap(begins)]
	for i := range code {
		code[i] = api.Instr{Op: -1, A: -2, B: -3, C: -4}
	}
	for i := range begins {
		begins[i] = -5
	}
}

// Each answer is new memory: what is written into one, spare room too, is met in no other one, and not in the program.
func TestAnswersNewMemory(t *testing.T) {
	p := program(t, everything, "unit two open h(p, q, r, s) { }")
	was := told(p)
	first, begins := made(t, p, 0, 0)
	want := told([]any{first, begins})
	second, others := made(t, p, 0, 0)
	filled(first, begins)
	if got := told([]any{second, others}); got != want {
		t.Errorf("two answers share memory: %s, want %s", got, want)
	}
	third, again := made(t, p, 0, 0)
	if got := told([]any{third, again}); got != want {
		t.Errorf("another answer is %s, want %s", got, want)
	}
	if told(p) != was {
		t.Errorf("an answer shares memory with the program: %v", p)
	}
}

// What a call answers hangs on its arguments alone: not on the calls ahead of it, nor on lists being nil or not, nor on spare room.
func TestAnswersAreAlike(t *testing.T) {
	p := program(t, everything, "unit two open h(p, q, r, s) { }")
	code, begins := made(t, p, 0, 7)
	want := told([]any{code, begins})
	_, _, _ = Unit(p, 0, 8)
	_, _, _ = Unit(p, 1, 7)
	_, _, _ = Unit(program(t, "unit one array a 3 open f() { a[0] = 1; }"), 0, 0)
	_, _, _ = Unit(nil, 0, 0)
	q := slices.Grow(p, 3)[:2:4]
	q[1].Vars, q[1].Arrays = []string{}, []api.Array{}
	q[0].Funcs = slices.Grow(q[0].Funcs, 4)
	q[0].Funcs[0].Body[0].Body, q[0].Funcs[0].Body[0].Else = []api.Stmt{}, []api.Stmt{}
	if code, begins = made(t, q, 0, 7); told([]any{code, begins}) != want {
		t.Errorf("%v, %v; want %s", code, begins, want)
	}
}

// What is handed in keeps its spare room as it was.
func TestSpareRoom(t *testing.T) {
	p := slices.Grow(program(t, everything, "unit two open h(p, q, r, s) { }"), 3)
	u := &p[0]
	u.Vars = append(make([]string, 0, 5), u.Vars...)
	u.Arrays = append(make([]api.Array, 0, 5), u.Arrays...)
	u.Funcs = append(make([]api.Func, 0, 5), u.Funcs...)
	f := &u.Funcs[0]
	f.Body = append(make([]api.Stmt, 0, 9), f.Body...)
	f.Params = append(make([]string, 0, 5), f.Params...)
	x := &f.Body[0].Exprs[0]
	x.Args = append(make([]api.Expr, 0, 5), x.Args...)
	p[:3][2].Name, u.Vars[:2][1], u.Arrays[:2][1].Name, u.Funcs[:3][2].Name, f.Body[:9][8].S, f.Params[:2][1], x.Args[:3][2].S = "s", "s", "s", "s", "s", "s", "s"
	rooms := func() string {
		return told([]any{p[:cap(p)], u.Vars[:5], u.Arrays[:5], u.Funcs[:5], f.Body[:9], f.Params[:5], x.Args[:5]})
	}
	was := rooms()
	made(t, p, 0, 0)
	made(t, p, 1, 0)
	_, _, _ = Unit(p, 2, 0)
	_, _, _ = Unit(p, 0, -1)
	if rooms() != was {
		t.Errorf("%s became %s", was, rooms())
	}
}
