package link

import (
	"math"
	"slices"
	"testing"

	"barbican/api"
	"barbican/mem"
)

// nonWords lie beyond both edges, near them and far off; the lowest bits of some look like a word.
var nonWords = []int{
	math.MinInt, math.MinInt32, -65536, -65535, -1,
	65536, 65537, 1 << 31, 1<<32 + 1, math.MaxInt - 1, math.MaxInt,
}

// counted cells of a program: all words, in the order in which they are in an image, are 1, 2 and so on.
func counted(t *testing.T, p []api.Unit) []api.Cells {
	t.Helper()
	l := fresh(t, p)
	n := 0
	for _, c := range l {
		for _, some := range slices.Concat([][]int{c.Vars}, c.Arrays) {
			for i := range some {
				n++
				some[i] = n
			}
		}
	}
	return l
}

// P11.2: unit by unit, variables, then arrays.
func TestData(t *testing.T) {
	p := program(t, "unit one var x array a 2 array b 1", "unit two", "unit tri array c 3 open f() { }", "unit qua var y var z")
	l := []api.Cells{
		{Vars: []int{65535}, Arrays: [][]int{{7, 0}, {9}}},
		{},
		{Arrays: [][]int{{5, 6, 1}}},
		{Vars: []int{8, 3}},
	}
	if got := told(words(t, p, l)); got != "[65535 7 0 9 5 6 1 8 3]" {
		t.Errorf("%s", got)
	}
}

// P11.2: as many words as may be, and none.
func TestDataOfAll(t *testing.T) {
	for _, sources := range [][]string{nil, {"unit one"}, {"unit one", "unit two open f() { }"}, {most("a")}, {most("a"), most("b"), "unit x", most("c"), most("d")}} {
		p := program(t, sources...)
		data := words(t, p, counted(t, p))
		for i, n := range data {
			if n != i+1 {
				t.Errorf("%q: %v", sources, data)
			}
		}
		if e := mem.CheckData(linked(t, p), data); e != api.OK {
			t.Errorf("%q: %v are not the words of the image: %d", sources, data, int(e))
		}
	}
}

// P11.2: words are told of cells of any program that may be, also of one of which no image can be had.
func TestDataOfMuch(t *testing.T) {
	p := program(t, "unit s var x", much("one"))
	if got := told(words(t, p, counted(t, p))); got != "[1 2 3 4 5]" {
		t.Errorf("%s", got)
	}
}

func refusesData(t *testing.T, p []api.Unit, l []api.Cells, want api.Errno) {
	t.Helper()
	was := told([]any{p, l})
	data, e := Data(p, l)
	if e != want || len(data) != 0 {
		t.Errorf("Data(%v, %v) is %v, %d; want none, %d", p, l, data, int(e), int(want))
	}
	if told([]any{p, l}) != was {
		t.Errorf("Data changed %s", was)
	}
}

// P11.2: what names' Check refuses, ahead of what is wrong with the cells.
func TestDataRefusesPrograms(t *testing.T) {
	for _, l := range [][]api.Cells{nil, make([]api.Cells, 1), {{Vars: []int{1}}}, make([]api.Cells, 6)} {
		refusesData(t, make([]api.Unit, 6), l, api.ErrSize)
		refusesData(t, []api.Unit{{Name: "if"}}, l, api.ErrForm)
		refusesData(t, []api.Unit{{Name: "a"}, {Name: "a"}}, l, api.ErrTwice)
		refusesData(t, program(t, "unit one var x array x 2"), l, api.ErrTwice)
		refusesData(t, program(t, "unit one var x func f() { y = 1; }"), l, api.ErrNone)
		refusesData(t, program(t, "unit one var x func f(p) { x = f(); }"), l, api.ErrCount)
	}
}

// P11.2: cells that are none of the program.
func TestDataRefusesCells(t *testing.T) {
	p := program(t, "unit one var x array a 2 array b 1", "unit two var y")
	for i, spoil := range []func(l []api.Cells) []api.Cells{
		func(l []api.Cells) []api.Cells { return nil },
		func(l []api.Cells) []api.Cells { return l[:1] },
		func(l []api.Cells) []api.Cells { return l[1:] },
		func(l []api.Cells) []api.Cells { return append(l, api.Cells{}) },
		func(l []api.Cells) []api.Cells { l[0], l[1] = l[1], l[0]; return l },
		func(l []api.Cells) []api.Cells { l[0].Vars = nil; return l },
		func(l []api.Cells) []api.Cells { l[0].Vars = []int{1, 2}; return l },
		func(l []api.Cells) []api.Cells { l[0].Arrays = l[0].Arrays[:1]; return l },
		func(l []api.Cells) []api.Cells { l[0].Arrays = append(l[0].Arrays, []int{1}); return l },
		func(l []api.Cells) []api.Cells { l[0].Arrays = [][]int{{1}, {1, 2}}; return l },
		func(l []api.Cells) []api.Cells { l[1].Arrays = [][]int{nil}; return l },
		func(l []api.Cells) []api.Cells { l[1].Vars = []int{}; return l },
	} {
		if l := spoil(counted(t, p)); l == nil || told(l) != told(counted(t, p)) {
			refusesData(t, p, l, api.ErrState)
		} else {
			t.Errorf("the cells %d are not spoilt", i)
		}
	}
	for _, n := range nonWords {
		for _, at := range []func(l []api.Cells) *int{
			func(l []api.Cells) *int { return &l[0].Vars[0] },
			func(l []api.Cells) *int { return &l[0].Arrays[0][1] },
			func(l []api.Cells) *int { return &l[0].Arrays[1][0] },
			func(l []api.Cells) *int { return &l[1].Vars[0] },
		} {
			l := counted(t, p)
			*at(l) = n
			refusesData(t, p, l, api.ErrState)
		}
	}
	refusesData(t, nil, make([]api.Cells, 1), api.ErrState)
	refusesData(t, program(t, "unit one"), nil, api.ErrState)
}
