package eval

import (
	"fmt"
	"math"
	"slices"
	"strings"
	"testing"

	"barbican/api"
	"barbican/tree"
)

// nonWords lie beyond both edges, near them and far off; the lowest bits of some look like a word.
var nonWords = []int{
	math.MinInt, math.MinInt32, -65536, -65535, -16, -1,
	65536, 65537, 65551, 1 << 31, 1<<32 + 1, math.MaxInt - 1, math.MaxInt,
}

// program of sources: a unit each.
func program(t *testing.T, sources ...string) []api.Unit {
	t.Helper()
	var p []api.Unit
	for _, s := range sources {
		u, e := tree.Read(s)
		if e != api.OK {
			t.Fatalf("%q is no unit: %v", s, e)
		}
		p = append(p, u)
	}
	return p
}

func fresh(t *testing.T, p []api.Unit) []api.Cells {
	t.Helper()
	l, e := Fresh(p)
	if e != api.OK {
		t.Fatalf("Fresh(%v) is refused with %d", p, int(e))
	}
	return l
}

// told: cells, or an outcome, as a text in which empty lists are the same, be they nil or not.
func told(x any) string { return strings.ReplaceAll(fmt.Sprint(x), "<nil>", "[]") }

// room of a list: it with its spare room.
func room(l []int) []int { return l[:cap(l)] }

// lists of words that cells hold, with their spare rooms.
func lists(l []api.Cells) [][]int {
	var all [][]int
	for _, c := range l[:cap(l)] {
		all = append(all, room(c.Vars))
		for _, a := range c.Arrays[:cap(c.Arrays)] {
			all = append(all, room(a))
		}
	}
	return all
}

// apart: no two of the lists share memory. They are written over, each with a number of its own.
func apart(t *testing.T, all [][]int) {
	t.Helper()
	for i, l := range all {
		for k := range l {
			l[k] = 1000 + i
		}
	}
	for i, l := range all {
		for _, n := range l {
			if n != 1000+i {
				t.Fatalf("the list %d is shared with the list %d", i, n-1000)
			}
		}
	}
}

// refusable: programs that names' Check refuses, and how.
func refusable(t *testing.T) map[api.Errno][]api.Unit {
	return map[api.Errno][]api.Unit{
		api.ErrSize:  make([]api.Unit, 6),
		api.ErrRange: {{Name: "a", Arrays: []api.Array{{Name: "x", Size: 11}}}},
		api.ErrKind:  {{Name: "a", Funcs: []api.Func{{Name: "f", Body: []api.Stmt{{}}}}}},
		api.ErrForm:  {{Name: "unit"}},
		api.ErrNone:  program(t, "unit a func f() { x = 1; }"),
		api.ErrTwice: program(t, "unit a var x var x"),
		api.ErrCount: program(t, "unit a func f() { return f(1); }"),
	}
}

// full: a unit with as many variables and arrays as may be.
func full(name string) string {
	return "unit " + name + " var a var b var c var d var e var f var g var h array i 10 array k 1 array l 9"
}

// P8.1
func TestFresh(t *testing.T) {
	all := "{[0 0 0 0 0 0 0 0] [[0 0 0 0 0 0 0 0 0 0] [0] [0 0 0 0 0 0 0 0 0]]}"
	for _, c := range []struct {
		p    []string
		want string
	}{
		{nil, "[]"},
		{[]string{"unit one"}, "[{[] []}]"},
		{[]string{"unit one var x"}, "[{[0] []}]"},
		{[]string{"unit one array x 1"}, "[{[] [[0]]}]"},
		{[]string{"unit one var x var y array a 3 array b 2 open f(p, q) { x = 7; a[1] = 7; }"}, "[{[0 0] [[0 0 0] [0 0]]}]"},
		{[]string{"unit one array a 2", "unit two", "unit tri var x", "unit four array a 1 array b 2 array c 3"}, "[{[] [[0 0]]} {[] []} {[0] []} {[] [[0] [0 0] [0 0 0]]}]"},
		{[]string{full("a"), full("b"), full("c"), full("d"), full("e")}, "[" + all + strings.Repeat(" "+all, 4) + "]"},
	} {
		p := program(t, c.p...)
		l, e := Fresh(p)
		if told(l) != c.want || e != api.OK {
			t.Errorf("Fresh of %q: %v, %d; want %s", c.p, l, int(e), c.want)
		}
		if e := CheckStores(p, l); e != api.OK {
			t.Errorf("CheckStores refuses the fresh cells of %q: %d", c.p, int(e))
		}
	}
}

// P8.1: what names' Check refuses.
func TestFreshRefuses(t *testing.T) {
	for want, p := range refusable(t) {
		if l, e := Fresh(p); e != want || len(l) != 0 {
			t.Errorf("Fresh(%v): %v, %d; want none, %d", p, l, int(e), int(want))
		}
	}
}

// P8.1: fresh cells are new memory, and nothing is kept from call to call.
func TestFreshIsNew(t *testing.T) {
	p := program(t, full("a"), full("b"), "unit c var x array y 3")
	before := fresh(t, p)
	apart(t, slices.Concat(lists(before), lists(fresh(t, p))))
	for _, l := range lists(fresh(t, p)) {
		if slices.Max(l) != 0 {
			t.Fatalf("a fresh list holds %v", l)
		}
	}
}

// P8.1: Copy asks nothing, so whatever cells there are come out.
func TestCopy(t *testing.T) {
	for _, l := range [][]api.Cells{
		nil,
		{},
		{{}},
		{{Vars: []int{}, Arrays: [][]int{}}},
		{{Vars: []int{1, 2, 3}}},
		{{Arrays: [][]int{{1}, nil, {}, {2, 3}}}},
		{{Vars: []int{65535, 0}, Arrays: [][]int{{7, 8, 9}, {1}}}, {Vars: []int{4}}, {}, {Arrays: [][]int{{5}}}},
		{{Vars: nonWords, Arrays: [][]int{nonWords, nonWords[3:], nonWords}}, {Vars: nonWords[:5]}},
		make([]api.Cells, 1000),
		{{Vars: make([]int, 100000), Arrays: make([][]int, 1000)}},
	} {
		was := told(l)
		if got := told(Copy(l)); got != was {
			t.Errorf("Copy(%s): %s", was, got)
		}
		if told(l) != was {
			t.Errorf("Copy changed %s", was)
		}
	}
}

// P8.1: the copy is apart from what was handed in, and its lists from one another, even where those handed in were not.
func TestCopyIsApart(t *testing.T) {
	back := []int{1, 2, 3, 4, 5, 6}
	arrays := make([][]int, 2, 5)
	arrays[0], arrays[1] = back[:3], back[2:4]
	arrays[:3][2] = back
	l := make([]api.Cells, 2, 4)
	l[0] = api.Cells{Vars: back[:2], Arrays: arrays}
	l[1] = api.Cells{Vars: back[:2], Arrays: arrays}
	l[:3][2] = api.Cells{Vars: back}
	was := told(l[:4])
	c, d := Copy(l), Copy(l)
	apart(t, slices.Concat(lists(c), lists(d)))
	c[0].Arrays[1], d[1].Arrays[0], c[1] = nil, nil, api.Cells{}
	_, _, _ = append(c, api.Cells{Vars: []int{9}}), append(d[0].Arrays, nil), append(c[0].Vars, 9)
	if told(l[:4]) != was || told(arrays[:5]) != told([][]int{{1, 2, 3}, {3, 4}, back, nil, nil}) || !slices.Equal(back, []int{1, 2, 3, 4, 5, 6}) {
		t.Errorf("what was handed in became %v", l[:4])
	}
}

// three units, of which the one between the others has no words.
func three(t *testing.T) []api.Unit {
	return program(t, "unit one var x var y array a 3 array b 1", "unit two", "unit tri array a 2")
}

// P8.1
func TestCheckStores(t *testing.T) {
	p := three(t)
	for i, change := range []func(l []api.Cells){
		func(l []api.Cells) {},
		func(l []api.Cells) { l[0].Vars = []int{65535, 1} },
		func(l []api.Cells) { l[0].Arrays = [][]int{{65535, 65535, 65535}, {65535}} },
		func(l []api.Cells) { l[1] = api.Cells{} },
		func(l []api.Cells) { l[1] = api.Cells{Vars: []int{}, Arrays: [][]int{}} },
		func(l []api.Cells) { l[2].Arrays = [][]int{{3, 65535}} },
	} {
		l := fresh(t, p)
		change(l)
		if e := CheckStores(p, l); e != api.OK {
			t.Errorf("case %d: CheckStores(.., %v): %d", i, l, int(e))
		}
	}
	if e := CheckStores(nil, nil); e != api.OK {
		t.Errorf("CheckStores of nothing: %d", int(e))
	}
}

// P8.1: as many cells as units, as many words as variables, as many lists as arrays, as many words in them as the Size tells.
func TestCheckStoresCounts(t *testing.T) {
	p := three(t)
	for i, change := range []func(l []api.Cells) []api.Cells{
		func(l []api.Cells) []api.Cells { return nil },
		func(l []api.Cells) []api.Cells { return l[:1] },
		func(l []api.Cells) []api.Cells { return l[:2] },
		func(l []api.Cells) []api.Cells { return append(l, api.Cells{}) },
		func(l []api.Cells) []api.Cells { return append(l, l...) },
		func(l []api.Cells) []api.Cells { l[0], l[1] = l[1], l[0]; return l },
		func(l []api.Cells) []api.Cells { l[0], l[2] = l[2], l[0]; return l },
		func(l []api.Cells) []api.Cells { l[0].Vars = nil; return l },
		func(l []api.Cells) []api.Cells { l[0].Vars = []int{0}; return l },
		func(l []api.Cells) []api.Cells { l[0].Vars = []int{0, 0, 0}; return l },
		func(l []api.Cells) []api.Cells { l[1].Vars = []int{0}; return l },
		func(l []api.Cells) []api.Cells { l[2].Vars = []int{0}; return l },
		func(l []api.Cells) []api.Cells { l[0].Arrays = nil; return l },
		func(l []api.Cells) []api.Cells { l[0].Arrays = l[0].Arrays[:1]; return l },
		func(l []api.Cells) []api.Cells { l[0].Arrays = append(l[0].Arrays, nil); return l },
		func(l []api.Cells) []api.Cells { l[0].Arrays = append(l[0].Arrays, []int{0}); return l },
		func(l []api.Cells) []api.Cells { l[1].Arrays = [][]int{nil}; return l },
		func(l []api.Cells) []api.Cells { l[2].Arrays = nil; return l },
		func(l []api.Cells) []api.Cells { a := l[0].Arrays; a[0], a[1] = a[1], a[0]; return l },
		func(l []api.Cells) []api.Cells { l[0].Arrays[0] = []int{0, 0}; return l },
		func(l []api.Cells) []api.Cells { l[0].Arrays[0] = []int{0, 0, 0, 0}; return l },
		func(l []api.Cells) []api.Cells { l[0].Arrays[1] = nil; return l },
		func(l []api.Cells) []api.Cells { l[0].Arrays[1] = []int{0, 0}; return l },
		func(l []api.Cells) []api.Cells { l[2].Arrays[0] = []int{0}; return l },
		func(l []api.Cells) []api.Cells { l[2].Arrays[0] = []int{0, 0, 0}; return l },
	} {
		l := change(fresh(t, p))
		if e := CheckStores(p, l); e != api.ErrState {
			t.Errorf("case %d: CheckStores(.., %v): %d, want %d", i, l, int(e), int(api.ErrState))
		}
	}
	if e := CheckStores(nil, make([]api.Cells, 1)); e != api.ErrState {
		t.Errorf("CheckStores of cells without units: %d", int(e))
	}
}

// P8.1: one is no word, wherever it stands.
func TestCheckStoresRefusesNonWords(t *testing.T) {
	p := program(t, full("a"), full("b"))
	for _, n := range nonWords {
		for i := range lists(fresh(t, p)) {
			l := fresh(t, p)
			all := lists(l)
			for _, k := range []int{0, len(all[i]) / 2, len(all[i]) - 1} {
				all[i][k] = n
				if e := CheckStores(p, l); e != api.ErrState {
					t.Errorf("CheckStores with %d in the list %d at %d: %d", n, i, k, int(e))
				}
				all[i][k] = 65535
				if e := CheckStores(p, l); e != api.OK {
					t.Errorf("CheckStores with 65535 in the list %d at %d: %d", i, k, int(e))
				}
			}
		}
	}
}

// P8.1: what names' Check refuses, ahead of what is wrong with the cells.
func TestCheckStoresRefusesPrograms(t *testing.T) {
	for want, p := range refusable(t) {
		for _, l := range [][]api.Cells{nil, make([]api.Cells, len(p)), {{Vars: []int{-1}}}} {
			if e := CheckStores(p, l); e != want {
				t.Errorf("CheckStores(%v, %v): %d, want %d", p, l, int(e), int(want))
			}
		}
	}
}

// Whatever is asked, what was handed in stays as it was, spare room too.
func TestCheckStoresChangesNothing(t *testing.T) {
	p := slices.Grow(program(t, full("a"), full("b")), 3)
	l := slices.Grow(fresh(t, p), 3)
	l[0].Vars, l[1].Arrays[2] = []int{1, 2, 3, 4, 5, 6, 7, 8, -9, -10}[:8], slices.Repeat([]int{7}, 20)[:9]
	before := told(p[:cap(p)]) + told(l[:cap(l)]) + told(lists(l))
	if e := CheckStores(p, l); e != api.OK {
		t.Errorf("refused with %d", int(e))
	}
	Fresh(p)
	if told(p[:cap(p)])+told(l[:cap(l)])+told(lists(l)) != before {
		t.Error("what was handed in is changed")
	}
}
