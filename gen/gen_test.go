package gen

import (
	"fmt"
	"math"
	"slices"
	"strings"
	"testing"

	"barbican/api"
	"barbican/eval"
	"barbican/mach"
	"barbican/mem"
	"barbican/names"
	"barbican/tree"
)

// program of sources: a unit each.
func program(t *testing.T, sources ...string) []api.Unit {
	t.Helper()
	var p []api.Unit
	for _, s := range sources {
		u, e := tree.Read(s)
		if e != api.OK {
			t.Fatalf("%q is no unit: %v", s, e)
		}
		p = append(p, u)
	}
	return p
}

// told: anything as a text in which empty lists are the same, be they nil or not.
func told(x any) string { return strings.ReplaceAll(fmt.Sprint(x), "<nil>", "[]") }

// made: code of a unit that may be, which keeps what holds of all of them.
func made(t *testing.T, p []api.Unit, u, base int) ([]api.Instr, []int) {
	t.Helper()
	was := told(p)
	code, begins, e := Unit(p, u, base)
	if e != api.OK {
		t.Fatalf("Unit(%s, %d, %d) is refused with %d", was, u, base, int(e))
	}
	if told(p) != was {
		t.Fatalf("Unit changed %s", was)
	}
	if len(code) > api.MaxCode || len(begins) != len(p[u].Funcs) {
		t.Fatalf("Unit(%s, %d, %d) has %d instructions and %d functions", was, u, base, len(code), len(begins))
	}
	return code, begins
}

// image of a program: a part a unit. Behind its open functions the others are entries, too, so that runs of them can be had.
func image(t *testing.T, p []api.Unit) api.Image {
	t.Helper()
	var m api.Image
	from := 0
	for i, u := range p {
		code, begins := made(t, p, i, from)
		part := api.Part{Code: code, From: from, To: from + names.Words(u)}
		for _, open := range []bool{true, false} {
			for k, f := range u.Funcs {
				if f.Open == open {
					part.Entries = append(part.Entries, api.Entry{At: begins[k], Params: len(f.Params)})
				}
			}
		}
		m.Parts = append(m.Parts, part)
		from = part.To
	}
	if e := mem.Check(m); e != api.OK {
		t.Fatalf("%v makes an image that may not be: %d: %v", p, int(e), m)
	}
	return m
}

// entryOf a function in such an image.
func entryOf(u api.Unit, fun string) int {
	var l []string
	for _, open := range []bool{true, false} {
		for _, f := range u.Funcs {
			if f.Open == open {
				l = append(l, f.Name)
			}
		}
	}
	return slices.Index(l, fun)
}

// flat: cells as the words of an image.
func flat(l []api.Cells) []int {
	var data []int
	for _, c := range l {
		data = append(data, c.Vars...)
		for _, a := range c.Arrays {
			data = append(data, a...)
		}
	}
	return data
}

// call of a function, over cells, with words.
type call struct {
	p         []api.Unit
	l         []api.Cells
	unit, fun string
	args      []int
}

// of a program of sources, with fresh cells.
func of(t *testing.T, unit, fun string, args []int, sources ...string) call {
	t.Helper()
	p := program(t, sources...)
	l, e := eval.Fresh(p)
	if e != api.OK {
		t.Fatalf("%q may not be: %d", sources, int(e))
	}
	return call{p, l, unit, fun, args}
}

// ending: what is asked of an outcome.
type ending struct {
	end, value int
	told, data []int
}

func (e ending) String() string {
	return told([]any{e.end, e.value, e.told, e.data})
}

// called: what eval's Call says, with so many frames ahead.
func (c call) called(t *testing.T, deep, fuel int) ending {
	t.Helper()
	o, l, e := eval.Call(c.p, c.l, c.unit, c.fun, c.args, deep, fuel)
	if e != api.OK {
		t.Fatalf("Call of %v is refused with %d", c, int(e))
	}
	return ending{o.End, o.Value, o.Told, flat(l)}
}

// run of an image of the program, over words.
func (c call) run(t *testing.T, m api.Image, data []int) ending {
	t.Helper()
	u := names.Unit(c.p, c.unit)
	o, e := mach.Run(m, data, u, entryOf(c.p[u], c.fun), c.args, api.MaxFuel)
	if e != api.OK {
		t.Fatalf("Run of %v is refused with %d: %v", c, int(e), m)
	}
	return ending{o.End, o.Value, o.Told, o.Data}
}

// comes: both what the program says and a run of its image are this.
func (c call) comes(t *testing.T, want string) {
	t.Helper()
	if got := c.called(t, 0, api.MaxFuel).String(); got != want {
		t.Errorf("Call of %v is %s, want %s", c, got, want)
	}
	if got := c.run(t, image(t, c.p), flat(c.l)).String(); got != want {
		t.Errorf("Run of %v is %s, want %s", c, got, want)
	}
}

func refuses(t *testing.T, p []api.Unit, u, base int, want api.Errno) {
	t.Helper()
	was := told(p)
	code, begins, e := Unit(p, u, base)
	if e != want || len(code) != 0 || len(begins) != 0 {
		t.Errorf("Unit(%s, %d, %d): %v, %v, %d; want none, %d", was, u, base, code, begins, int(e), int(want))
	}
	if told(p) != was {
		t.Errorf("Unit changed %s", was)
	}
}

// P10.1: a unit without functions has no code, whatever else it has.
func TestWithoutFunctions(t *testing.T) {
	for _, s := range []string{"unit one", "unit one var x", "unit one var x array a 3 array b 10"} {
		code, begins := made(t, program(t, s), 0, 0)
		if len(code) != 0 || len(begins) != 0 {
			t.Errorf("%q: %v, %v", s, code, begins)
		}
	}
}

// P10.1: what names' Check refuses, in whatever unit it stands.
func TestRefusesPrograms(t *testing.T) {
	for want, rests := range map[api.Errno][]string{
		api.ErrNone: {
			"func f() { y = 1; }", "func f() { return y; }", "func f() { return b[0]; }", "func f() { b[0] = 1; }",
			"func f() { return g(); }", "func f() { return two.g(); }", "func f() { return one.f(); }", "func f() { if 0 { say y; } }",
		},
		api.ErrTwice: {"array x 3", "array a 3", "func f() { } open f() { }", "func f(p, q, p) { }"},
		api.ErrCount: {"func f() { return f(1); }", "func f(p) { return f(); }", "func f(p) { return f(1, 2); }"},
	} {
		for _, rest := range rests {
			bad := "unit one var x array a 2 " + rest
			refuses(t, program(t, bad), 0, 0, want)
			p := program(t, "unit two func f() { say 1; }", bad)
			refuses(t, p, 0, 0, want)
			refuses(t, p, 1, 0, want)
		}
	}
	refuses(t, make([]api.Unit, api.MaxParts+1), 0, 0, api.ErrSize)
	refuses(t, []api.Unit{{Name: "if"}}, 0, 0, api.ErrForm)
	refuses(t, []api.Unit{{Name: "one"}, {Name: "one"}}, 0, 0, api.ErrTwice)
	refuses(t, []api.Unit{{Name: "one", Arrays: []api.Array{{Name: "a", Size: 11}}}}, 0, 0, api.ErrRange)
	refuses(t, []api.Unit{{Name: "one", Funcs: []api.Func{{Name: "f", Body: make([]api.Stmt, 1)}}}}, 0, 0, api.ErrKind)
	refuses(t, []api.Unit{{Name: "one", Funcs: []api.Func{{Name: "f", Params: make([]string, 5)}}}}, 0, 0, api.ErrSize)
}

// P10.1: there is no such unit.
func TestRefusesPlaces(t *testing.T) {
	p := program(t, "unit one", "unit two open f() { }", "unit tri")
	for _, u := range []int{3, 4, 5, -1, -3, math.MinInt, math.MaxInt, 1 << 32} {
		refuses(t, p, u, 0, api.ErrNone)
	}
	for _, u := range []int{0, 1, -1} {
		refuses(t, nil, u, 0, api.ErrNone)
		refuses(t, []api.Unit{}, u, 0, api.ErrNone)
	}
	for u := range p {
		made(t, p, u, 0)
	}
}

// P10.1: base, and base and its words: only those of the unit itself count.
func TestRefusesBases(t *testing.T) {
	p := program(t, "unit one", "unit two var x array a 10 array b 2 open f() { x = a[x]; }", "unit tri var x")
	for u, most := range []int{250, 237, 249} {
		for _, base := range []int{0, 1, most - 1, most} {
			made(t, p, u, base)
		}
		for _, base := range []int{most + 1, 251, 65536, math.MaxInt, math.MaxInt - 12, -1, -13, math.MinInt, math.MinInt + 12} {
			refuses(t, p, u, base, api.ErrRange)
		}
	}
}

// P10.1: where several apply, the first one is told.
func TestRefusesInOrder(t *testing.T) {
	much := program(t, "unit one array a 3 open f(p) { "+strings.Repeat("a[a[p]] = a[a[p]]; ", 100)+"}")
	refuses(t, program(t, "unit one func f() { return y; }"), 7, -1, api.ErrNone)
	refuses(t, []api.Unit{{Name: "if"}}, 7, -1, api.ErrForm)
	refuses(t, []api.Unit{{Name: "if"}}, 0, -1, api.ErrForm)
	refuses(t, much, 7, -1, api.ErrNone)
	refuses(t, much, -1, 251, api.ErrNone)
	refuses(t, much, 0, -1, api.ErrRange)
	refuses(t, much, 0, 248, api.ErrRange)
	refuses(t, much, 0, 247, api.ErrSize)
}
