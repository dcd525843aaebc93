package eval

import (
	"math"
	"slices"
	"testing"

	"barbican/api"
)

// far lie outside all fuel and frames; the lowest bits of some look like either.
var far = []int{
	math.MinInt, math.MinInt32, -1 << 32, -65536, -2, -1,
	100001, 1 << 31, 1 << 32, 1<<32 + 1, math.MaxInt - 1, math.MaxInt,
}

// asked of Call.
type asked struct {
	p         []api.Unit
	l         []api.Cells
	unit, fun string
	args      []int
	deep      int
	fuel      int
}

func (a asked) call() (api.Outcome, []api.Cells, api.Errno) {
	return Call(a.p, a.l, a.unit, a.fun, a.args, a.deep, a.fuel)
}

// called: what comes of a call that is not refused, and that leaves what was handed in as it was.
func (a asked) called(t *testing.T) (api.Outcome, []api.Cells) {
	t.Helper()
	was := told(a)
	o, l, e := a.call()
	if e != api.OK {
		t.Fatalf("Call(%s) is refused with %d", was, int(e))
	}
	if told(a) != was {
		t.Fatalf("Call changed %s", was)
	}
	if len(o.Data) != 0 || len(o.Calls) != 0 || o.End != api.Done && o.Value != 0 {
		t.Fatalf("Call(%s) answers %v", was, o)
	}
	if e := CheckStores(a.p, l); e != api.OK {
		t.Fatalf("Call(%s) answers the cells %v", was, l)
	}
	return o, l
}

func (a asked) refused(t *testing.T, want api.Errno) {
	t.Helper()
	was := told(a)
	if o, l, e := a.call(); e != want || told(o) != told(api.Outcome{}) || len(l) != 0 {
		t.Errorf("Call(%s): %v, %v, %d; want nothing, %d", was, o, l, int(e), int(want))
	}
	if told(a) != was {
		t.Fatalf("Call changed %s", was)
	}
}

// of sources: the function f of the unit one, without words, with fresh cells and all fuel.
func of(t *testing.T, sources ...string) asked {
	t.Helper()
	p := program(t, sources...)
	return asked{p: p, l: fresh(t, p), unit: "one", fun: "f", fuel: api.MaxFuel}
}

// comes: the outcome, and the cells then, as texts: the end, the value, and what was told.
func (a asked) comes(t *testing.T, want, cells string) {
	t.Helper()
	o, l := a.called(t)
	if got := told([]any{o.End, o.Value, o.Told}); got != want || told(l) != cells {
		t.Errorf("%s.%s(%v) of %v: %s, %v; want %s, %s", a.unit, a.fun, a.args, a.p, got, l, want, cells)
	}
}

// usual: a call of which nothing is refused.
func usual(t *testing.T) asked {
	t.Helper()
	a := of(t, "unit one var x array a 2 open f(p, q) { x = (x + p); say q; return x; } func g() { }", "unit two var x open f(p) { x = p; }")
	a.args = []int{7, 8}
	return a
}

// P8.2: the document's example of the whole.
func TestCallAgain(t *testing.T) {
	a := of(t, "unit one var x open f(p) { x = (x + p); return x; }")
	a.args = []int{7}
	a.comes(t, "[1 7 []]", "[{[7] []}]")
	_, a.l = a.called(t)
	a.comes(t, "[1 14 []]", "[{[14] []}]")
	a.l[0].Vars[0] = 65530
	a.comes(t, "[1 1 []]", "[{[1] []}]")
}

// P8.2: any function of any unit, be it open or not, at any place.
func TestCallFindsFunctions(t *testing.T) {
	units := []string{"one", "two", "tri", "f"}
	funcs := []string{"f", "g", "one", "h"}
	var sources []string
	for i, u := range units {
		s := "unit " + u + " var x"
		for k, f := range funcs {
			s += []string{" open ", " func "}[(i+k)%2] + f + "(" + []string{"", "p", "p, q", "p, q, r"}[k] + ") { x = " + string(rune('1'+k)) + "; say x; return " + string(rune('1'+i)) + "; }"
		}
		sources = append(sources, s)
	}
	a := of(t, sources...)
	for i, u := range units {
		for k, f := range funcs {
			a.unit, a.fun, a.args = u, f, []int{5, 6, 7}[:k]
			l := fresh(t, a.p)
			l[i].Vars[0] = k + 1
			a.comes(t, told([]any{1, i + 1, []int{k + 1}}), told(l))
		}
	}
}

// P8.2: what CheckStores refuses.
func TestCallRefusesCells(t *testing.T) {
	for want, p := range refusable(t) {
		asked{p: p, l: make([]api.Cells, len(p)), unit: "a", fun: "f"}.refused(t, want)
		asked{p: p, unit: "b", deep: -1}.refused(t, want)
	}
	a := usual(t)
	a.l = a.l[:1]
	a.refused(t, api.ErrState)
	a = usual(t)
	a.l = append(a.l, api.Cells{})
	a.refused(t, api.ErrState)
	for _, n := range nonWords {
		a = usual(t)
		a.l[0].Arrays[0][1] = n
		a.refused(t, api.ErrState)
		a = usual(t)
		a.l[1].Vars[0] = n
		a.refused(t, api.ErrState)
	}
}

// P8.2
func TestCallRefusesNames(t *testing.T) {
	a := usual(t)
	for _, s := range []string{"", "tri", "on", "onee", "One", " one", "one ", "f", "x", "unit", "one.f", "\x00", "é", "\xff"} {
		a.unit, a.fun = s, "f"
		a.refused(t, api.ErrNone)
	}
	for _, s := range []string{"", "ff", "F", " f", "x", "a", "p", "one", "two", "two.f", "func", "\x00", "\xff"} {
		a.unit, a.fun = "one", s
		a.refused(t, api.ErrNone)
	}
	a.unit, a.fun = "two", "g"
	a.refused(t, api.ErrNone)
	asked{unit: "one", fun: "f"}.refused(t, api.ErrNone)
	asked{}.refused(t, api.ErrNone)
}

// P8.2
func TestCallRefusesCounts(t *testing.T) {
	a := of(t, "unit one func f() { } func g(p) { } func h(p, q) { } func i(p, q, r) { } func k(p, q, r, s) { }")
	for takes, fun := range []string{"f", "g", "h", "i", "k"} {
		for n := range 12 {
			a.fun, a.args = fun, make([]int, n)
			if n == takes {
				a.comes(t, "[1 0 []]", "[{[] []}]")
			} else {
				a.refused(t, api.ErrCount)
			}
		}
		a.args = make([]int, 65536+takes)
		a.refused(t, api.ErrCount)
	}
}

// P8.2: frames, fuel and words, at their edges and beyond.
func TestCallRefusesNumbers(t *testing.T) {
	for _, n := range append([]int{20, 21, 100, 65536}, far...) {
		a := usual(t)
		a.deep = n
		a.refused(t, api.ErrRange)
	}
	for _, n := range far {
		a := usual(t)
		a.fuel = n
		a.refused(t, api.ErrRange)
	}
	for _, n := range nonWords {
		a := usual(t)
		a.args = []int{n, 8}
		a.refused(t, api.ErrRange)
		a.args = []int{7, n}
		a.refused(t, api.ErrRange)
	}
	for deep := range 20 {
		for _, fuel := range []int{7, 8, 99999, 100000} {
			a := usual(t)
			a.deep, a.fuel, a.args = deep, fuel, []int{65535, 0}
			if fuel == 7 {
				a.comes(t, "[3 0 [0]]", "[{[65535] [[0 0]]} {[0] []}]")
			} else {
				a.comes(t, "[1 65535 [0]]", "[{[65535] [[0 0]]} {[0] []}]")
			}
		}
	}
}

// P8.2: the error that is named first is the one that is told, whatever else is wrong.
func TestCallRefusesInOrder(t *testing.T) {
	wrong := []struct {
		e      api.Errno
		change func(a *asked)
	}{
		{api.ErrForm, func(a *asked) { a.p[0].Name = "" }},
		{api.ErrState, func(a *asked) { a.l[1].Vars = nil }},
		{api.ErrNone, func(a *asked) { a.unit = "tri" }},
		{api.ErrNone, func(a *asked) { a.fun = "h" }},
		{api.ErrCount, func(a *asked) { a.args = append(a.args, 1) }},
		{api.ErrRange, func(a *asked) { a.deep = 20 }},
		{api.ErrRange, func(a *asked) { a.fuel = -1 }},
		{api.ErrRange, func(a *asked) { a.args[0] = -1 }},
	}
	for some := range 1 << len(wrong) {
		a := usual(t)
		want := api.OK
		for i, w := range slices.Backward(wrong) {
			if some>>i&1 == 1 {
				w.change(&a)
				want = w.e
			}
		}
		if want == api.OK {
			a.called(t)
		} else {
			a.refused(t, want)
		}
	}
}

// P8.2: the cells then, and what was told, also of a run that does not come to be Done; and no Value of it.
func TestCellsThen(t *testing.T) {
	for _, c := range []struct{ stmt, want, cells string }{
		{"return 9;", "[1 9 [4]]", "[{[3 2] [[0 5]]} {[6] []}]"},
		{"say a[2];", "[2 0 [4]]", "[{[3 2] [[0 5]]} {[6] []}]"},
		{"return a[2];", "[2 0 [4]]", "[{[3 2] [[0 5]]} {[6] []}]"},
		{"while 1 { y = 1; }", "[3 0 [4]]", "[{[3 1] [[0 5]]} {[6] []}]"},
		{"y = 1; y = h(); x = 1;", "[5 0 [4]]", "[{[3 1] [[0 5]]} {[6] []}]"},
	} {
		a := of(t, "unit one var x var y array a 2 open f() { x = 3; y = 2; say 4; a[1] = 5; y = (y + two.f()); "+c.stmt+" x = 0; } open h() { return two.g(); }", "unit two var x open f() { x = 6; } open g() { return one.h(); }")
		a.comes(t, c.want, c.cells)
	}
}

// P8.2: what comes out is new memory, shared with nothing that was handed in, and with no other answer.
func TestCallAnswersNewMemory(t *testing.T) {
	back := []int{1, 2, 3, 4, 5, 6}
	for _, fuel := range []int{0, 3, 100000} {
		a := usual(t)
		a.l[0].Vars, a.l[1].Vars, a.l[0].Arrays[0], a.args = back[:1], back[:1], back[1:3], back[3:5]
		a.fuel = fuel
		var all [][]int
		for range 2 {
			o, l := a.called(t)
			all = slices.Concat(all, lists(l), [][]int{room(o.Told)})
		}
		apart(t, all)
		if !slices.Equal(back, []int{1, 2, 3, 4, 5, 6}) {
			t.Fatalf("what was handed in became %v", back)
		}
	}
}

// P8.2: lists that are shared where they are handed in are not shared by what is done.
func TestCallOfSharedCells(t *testing.T) {
	a := of(t, "unit one var x array a 1 func f(p) { x = (x + 1); p = (p * 2); a[0] = (a[0] + 3); say p; return two.f(); }", "unit two var x open f() { x = (x + 9); return x; }")
	back := []int{50}
	a.l = []api.Cells{{Vars: back, Arrays: [][]int{back}}, {Vars: back}}
	a.args = back
	a.comes(t, "[1 59 [100]]", "[{[51] [[53]]} {[59] []}]")
}

// P8.2: spare room of what is handed in stays as it was.
func TestCallLeavesSpareRoom(t *testing.T) {
	a := usual(t)
	back := slices.Repeat([]int{-7}, 30)
	back[0], back[10], back[11], back[20], back[21] = 1, 2, 3, 4, 5
	a.l[0].Vars, a.l[0].Arrays[0], a.args = back[:1:10], back[10:12:20], back[20:22]
	before := slices.Clone(back)
	a.comes(t, "[1 5 [5]]", "[{[5] [[2 3]]} {[0] []}]")
	if !slices.Equal(back, before) {
		t.Errorf("what was handed in became %v", back)
	}
}

// Nothing is kept from call to call, and a run that ends in whatever way leaves the next one alone.
func TestCallsAreAlike(t *testing.T) {
	var l []asked
	for _, s := range []string{"return 1;", "return a[9];", "while 1 { x = (x + 1); }", "return f();", "while 1 { say x; }"} {
		l = append(l, of(t, "unit one var x array a 3 func f() { "+s+" }"))
	}
	var first []string
	for k := range 3 {
		for i, a := range l {
			o, c := a.called(t)
			if k == 0 {
				first = append(first, told(o)+told(c))
			} else if told(o)+told(c) != first[i] {
				t.Errorf("case %d: %v, %v; at first %s", i, o, c, first[i])
			}
		}
	}
}
