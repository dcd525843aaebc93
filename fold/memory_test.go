package fold

import (
	"reflect"
	"slices"
	"testing"

	"barbican/api"
)

// span of memory, from a first byte to behind a last one.
type span struct{ from, to uintptr }

func (s span) meets(o span) bool { return s.from < o.to && o.from < s.to }

// spans of all lists, with their spare rooms, and of all texts, that something holds.
type spans struct{ lists, texts []span }

func spansOf(x any) spans {
	var s spans
	s.add(reflect.ValueOf(x))
	return s
}

func (s *spans) add(v reflect.Value) {
	switch v.Kind() {
	case reflect.String:
		if v.Len() > 0 {
			s.texts = append(s.texts, span{v.Pointer(), v.Pointer() + uintptr(v.Len())})
		}
	case reflect.Slice:
		v = v.Slice(0, v.Cap())
		if n := uintptr(v.Len()) * v.Type().Elem().Size(); n > 0 {
			s.lists = append(s.lists, span{v.Pointer(), v.Pointer() + n})
		}
		for i := range v.Len() {
			s.add(v.Index(i))
		}
	case reflect.Struct:
		for i := range v.NumField() {
			s.add(v.Field(i))
		}
	}
}

// shares: is any of the lists met by any of the others?
func shares(a, b []span) bool {
	return slices.ContainsFunc(a, func(s span) bool { return slices.ContainsFunc(b, s.meets) })
}

// shareAmong: do any two of them meet?
func shareAmong(l []span) bool {
	l = slices.SortedFunc(slices.Values(l), func(a, b span) int { return int(a.from) - int(b.from) })
	for i := 1; i < len(l); i++ {
		if l[i-1].meets(l[i]) {
			return true
		}
	}
	return false
}

// apart: two answers for a program share nothing with it, nor with one another, nor have they lists that share any.
func apart(t *testing.T, p []api.Unit) {
	t.Helper()
	first, second := folded(t, p), folded(t, p)
	in, one, two := spansOf(p), spansOf(first), spansOf(second)
	if shareAmong(one.lists) || shareAmong(two.lists) {
		t.Errorf("lists of one answer for %v share memory", p)
	}
	if shares(one.lists, two.lists) || shares(one.texts, two.texts) {
		t.Errorf("two answers for %v share memory", p)
	}
	if shares(one.lists, in.lists) || shares(one.texts, in.texts) {
		t.Errorf("an answer for %v shares memory with it", p)
	}
	if told(first) != told(second) {
		t.Errorf("two answers for %v: %v, and %v", p, first, second)
	}
}

// The helper itself: it sees what is shared.
func TestSpans(t *testing.T) {
	back := make([]api.Expr, 4)
	x := api.Expr{Args: back[:1:1]}
	for _, c := range []struct {
		y    api.Expr
		want bool
	}{
		{api.Expr{Args: back[:1:1]}, true},
		{api.Expr{Args: back[1:]}, false},
		{api.Expr{Args: []api.Expr{{Args: back}}}, true},
		{api.Expr{}, false},
	} {
		if got := shares(spansOf(x).lists, spansOf(c.y).lists); got != c.want {
			t.Errorf("%v shares with %v: %v", c.y, x, got)
		}
		if got := shareAmong(append(spansOf(x).lists, spansOf(c.y).lists...)); got != c.want {
			t.Errorf("%v and %v share: %v", c.y, x, got)
		}
	}
	if s := "some text"; !shares(spansOf(s[:4]).texts, spansOf(api.Expr{S: s[2:]}).texts) {
		t.Error("a text that is shared is not seen")
	}
}

// P9.1: new memory, of programs with everything in them.
func TestAnswersNewMemory(t *testing.T) {
	apart(t, nil)
	apart(t, program(t, "unit one"))
	apart(t, program(t, inUnit("x = (1 + 2); a[(1 + 1)] = (x + 3); if x { say p; } else { return g(p, (1 + 2)); } while x { x = two.h(1, x, p, a[1]); }")...))
}

// Lists that are shared where they are handed in are not shared in the answer.
func TestSharedLists(t *testing.T) {
	names := []string{"x", "y", "p", "q"}
	number := []api.Expr{{Kind: api.Number, N: 3}, {Kind: api.Number, N: 4}, {Kind: api.Var, S: "x"}}
	two := []api.Expr{{Kind: api.Two, N: api.Add, Args: number[:2]}, {Kind: api.Two, N: api.Mul, Args: number[1:]}}
	body := []api.Stmt{{Kind: api.Set, S: "x", Exprs: two[:1]}, {Kind: api.SetAt, S: "a", Exprs: two}, {Kind: api.Say, Exprs: two[1:]}}
	body = append(body, api.Stmt{Kind: api.If, Exprs: two[1:], Body: body, Else: body})
	funcs := []api.Func{{Name: "f", Params: names[:2], Body: body}, {Name: "g", Params: names[1:], Body: body[1:]}}
	arrays := []api.Array{{Name: "a", Size: 10}}
	p := []api.Unit{{Name: "one", Vars: names, Arrays: arrays, Funcs: funcs}, {Name: "two", Vars: names[:2], Arrays: arrays, Funcs: funcs[:1]}}
	apart(t, p)
	q := folded(t, p)
	q[0].Funcs[0].Body[0].Exprs[0].N = 9
	if got := q[0].Funcs[0].Body[3].Body[0].Exprs[0].N; got != 7 {
		t.Errorf("the sum of 3 and 4 is %d", got)
	}
}

// What is handed in keeps its spare room as it was, and what is put behind an answer's lists stands nowhere else.
func TestSpareRoom(t *testing.T) {
	p := slices.Grow(program(t, inUnit("x = (1 + 2); say g((1 + 1), 2);")...), 3)
	u := &p[0]
	u.Vars = append(make([]string, 0, 5), u.Vars...)
	u.Funcs = append(make([]api.Func, 0, 5), u.Funcs...)
	u.Funcs[0].Body = append(make([]api.Stmt, 0, 5), u.Funcs[0].Body...)
	u.Funcs[0].Params = append(make([]string, 0, 5), u.Funcs[0].Params...)
	u.Vars[:5][3], u.Funcs[:5][4].Name, u.Funcs[0].Body[:5][4].S, u.Funcs[0].Params[:5][1] = "spare", "spare", "spare", "spare"
	p[:5][2].Name = "spare"
	rooms := func() string {
		return told(p[:5]) + told(u.Vars[:5]) + told(u.Funcs[:5]) + told(u.Funcs[0].Body[:5]) + told(u.Funcs[0].Params[:5])
	}
	was := rooms()
	apart(t, p)
	q := folded(t, p)
	now := told(q)
	_, _ = append(q, api.Unit{Name: "more"}), append(q[0].Vars, "more")
	_, _ = append(q[0].Funcs, api.Func{}), append(q[0].Funcs[0].Body, api.Stmt{})
	if rooms() != was || told(q) != now {
		t.Errorf("%s became %s, or %s became %v", was, rooms(), now, q)
	}
}
