package link

import (
	"reflect"
	"slices"
	"testing"

	"barbican/api"
)

// span of memory, from a first byte to behind a last one.
type span struct{ from, to uintptr }

func (s span) meets(o span) bool { return s.from < o.to && o.from < s.to }

// spansOf all lists, with their spare rooms, that something holds.
func spansOf(x any) []span { return addSpans(nil, reflect.ValueOf(x)) }

func addSpans(l []span, v reflect.Value) []span {
	switch v.Kind() {
	case reflect.Interface:
		return addSpans(l, v.Elem())
	case reflect.Slice:
		v = v.Slice(0, v.Cap())
		if n := uintptr(v.Len()) * v.Type().Elem().Size(); n > 0 {
			l = append(l, span{v.Pointer(), v.Pointer() + n})
		}
		for i := range v.Len() {
			l = addSpans(l, v.Index(i))
		}
	case reflect.Struct:
		for i := range v.NumField() {
			l = addSpans(l, v.Field(i))
		}
	}
	return l
}

// apart: do none of the lists of any of these things meet one another? What is handed in may share what it likes within itself.
func apart(t *testing.T, in any, answers ...any) {
	t.Helper()
	given := spansOf(in)
	var all []span
	for _, x := range answers {
		all = append(all, spansOf(x)...)
	}
	for i, s := range all {
		if slices.ContainsFunc(given, s.meets) {
			t.Errorf("an answer for %v shares memory with it", in)
		}
		if slices.ContainsFunc(all[:i], s.meets) {
			t.Errorf("answers for %v, or lists of one of them, share memory", in)
		}
	}
}

// Each answer is new memory, and hangs on what was handed in alone.
func TestMemoryOfProgram(t *testing.T) {
	p := program(t, "unit one var x array a 3 open f(p) { x = a[p]; return two.g(x); } open h() { }", "unit two open g(p) { return p; }")
	one, two := linked(t, p), linked(t, p)
	_, _ = Program(program(t, "unit tri var y open f() { return 3; }"))
	_, _ = Program(nil)
	again := linked(t, p)
	apart(t, p, one, two, again)
	if told(one) != told(two) || told(one) != told(again) {
		t.Errorf("%v, %v, and %v", one, two, again)
	}
}

func TestMemoryOfData(t *testing.T) {
	p := program(t, "unit one var x var y", "unit two array a 3", "unit tri var z array a 1 array b 2")
	for i := range p {
		for _, some := range [][]api.Unit{p[i:], p[i : i+1]} {
			l := counted(t, some)
			one, two := words(t, some, l), words(t, some, l)
			apart(t, l, one, two)
			if told(one) != told(two) {
				t.Errorf("%v, and %v", one, two)
			}
		}
	}
	// Variables with spare room, in which another list of words stands.
	all := []int{1, 2, 3, 4, 5, 6, 7}
	l := []api.Cells{{Vars: all[:2]}, {Arrays: [][]int{all[1:4]}}, {Vars: all[:1], Arrays: [][]int{all[2:3], all[1:3]}}}
	if got := told(words(t, p, l)); got != "[1 2 2 3 4 1 3 2 3]" || told(all) != "[1 2 3 4 5 6 7]" {
		t.Errorf("%s, of %v", got, all)
	}
	apart(t, l, words(t, p, l))
}

// roomy: an image whose lists have spare room, and share it.
func roomy() (api.Image, []api.Instr, []api.Entry) {
	code := []api.Instr{{Op: api.Push, A: 1}, {Op: api.Ret}, {Op: api.Push, A: 3}, {Op: api.Tell}, {Op: api.Trap}}
	entries := []api.Entry{{At: 1}, {At: 2, Params: 3}, {At: 4}}
	parts := []api.Part{
		{Code: code[:2], Entries: entries[:1], To: 2},
		{Code: code[1:3], Entries: entries[:2], From: 2, To: 2},
		{Code: []api.Instr{{Op: api.Dup}}, From: 77, To: 78},
	}
	return api.Image{Parts: parts[:2]}, code[:3], entries[1:2]
}

func TestMemoryOfWith(t *testing.T) {
	m, code, entries := roomy()
	whole := []any{m.Parts[:3], code[:5], entries[:2]}
	was := told(whole)
	one, at := behind(t, m, code, entries, 4)
	two, _ := behind(t, m, code, entries, 4)
	tri, _ := behind(t, one, one.Parts[at].Code, one.Parts[at].Entries, 4)
	apart(t, whole, one, two, tri)
	for _, x := range []api.Image{one, tri} {
		for _, part := range x.Parts[:cap(x.Parts)] {
			clear(part.Code[:cap(part.Code)])
			clear(part.Entries[:cap(part.Entries)])
		}
		clear(x.Parts[:cap(x.Parts)])
	}
	if told(whole) != was {
		t.Errorf("%s became %v", was, whole)
	}
	if again, _ := behind(t, m, code, entries, 4); told(again) != told(two) {
		t.Errorf("%v, and %v", two, again)
	}
}

// Lists may be nil or not, and may have spare room: what is answered is the same.
func TestAnswersAreAlike(t *testing.T) {
	p := program(t, "unit one open f() { if 1 { } return 2; }", "unit two var x array a 1")
	want := told([]any{linked(t, p), words(t, p, counted(t, p))})
	q := slices.Grow(program(t, "unit one open f() { if 1 { } return 2; }", "unit two var x array a 1"), 3)
	q[0].Vars, q[0].Arrays, q[1].Funcs = []string{}, []api.Array{}, []api.Func{}
	q[0].Funcs = slices.Grow(q[0].Funcs, 4)
	f := &q[0].Funcs[0]
	f.Params, f.Body[0].Body, f.Body[0].Else = []string{}, []api.Stmt{}, []api.Stmt{}
	f.Body = slices.Grow(f.Body, 4)
	l := []api.Cells{{Vars: []int{}, Arrays: [][]int{}}, {Vars: []int{1}, Arrays: [][]int{{2}}}}
	if got := told([]any{linked(t, q), words(t, q, l)}); got != want {
		t.Errorf("%s, want %s", got, want)
	}
	for _, none := range [][]api.Unit{nil, {}} {
		if got := told([]any{linked(t, none), words(t, none, nil), words(t, none, []api.Cells{})}); got != "[{[]} [] []]" {
			t.Errorf("a program without units: %s", got)
		}
	}
}
