package gen

import (
	"fmt"
	"slices"
	"strings"
	"testing"

	"barbican/api"
)

// inUnit: a call f(1, 2) of a body in a unit whose words are 3, 4 (its variables), 10, 20, 30, and 40, 50 (its arrays). Behind it another unit has words.
func inUnit(t *testing.T, body string) call {
	t.Helper()
	one := "unit one var x var y array a 3 array b 2 open f(p, q) { " + body + " } " +
		"func g(p) { x = (x + p); say x; return (p + p); } func l(p, q, r, s) { say p; say q; say r; say s; } func e() { } " +
		"func m(p, q, r, s) { b[0] = 9; say p; say q; say r; return s; } " +
		"open s(p) { b[p] = (p + 7); return b[p]; }"
	c := of(t, "one", "f", []int{1, 2}, one, "unit two var z array a 1")
	copy(c.l[0].Vars, []int{3, 4})
	copy(c.l[0].Arrays[0], []int{10, 20, 30})
	copy(c.l[0].Arrays[1], []int{40, 50})
	copy(c.l[1].Vars, []int{60})
	copy(c.l[1].Arrays[0], []int{70})
	return c
}

// example: a body, and what comes of it.
type example struct{ body, want string }

func examples(t *testing.T, l []example) {
	t.Helper()
	for _, c := range l {
		inUnit(t, c.body).comes(t, c.want)
	}
}

const same = "[3 4 10 20 30 40 50 60 70]"

// P10.1: a value is returned, or 0 without one.
func TestReturns(t *testing.T) {
	examples(t, []example{
		{"", "[1 0 [] " + same + "]"},
		{"return 7;", "[1 7 [] " + same + "]"},
		{"return 65535;", "[1 65535 [] " + same + "]"},
		{"return p;", "[1 1 [] " + same + "]"},
		{"return q;", "[1 2 [] " + same + "]"},
		{"return x;", "[1 3 [] " + same + "]"},
		{"return y;", "[1 4 [] " + same + "]"},
		{"return 1; say 2; return 3;", "[1 1 [] " + same + "]"},
		{"say 9; say 8;", "[1 0 [9 8] " + same + "]"},
		{"return e();", "[1 0 [] " + same + "]"},
		{"if p { return 5; } return 6;", "[1 5 [] " + same + "]"},
		{"while 1 { return 5; } return 6;", "[1 5 [] " + same + "]"},
	})
}

// P10.1: variables of the function, or of the unit.
func TestSets(t *testing.T) {
	examples(t, []example{
		{"x = 7;", "[1 0 [] [7 4 10 20 30 40 50 60 70]]"},
		{"y = 7; return y;", "[1 7 [] [3 7 10 20 30 40 50 60 70]]"},
		{"p = 7; return (p + q);", "[1 9 [] " + same + "]"},
		{"q = 7; return (p + q);", "[1 8 [] " + same + "]"},
		{"x = y; y = x;", "[1 0 [] [4 4 10 20 30 40 50 60 70]]"},
		{"x = (x + p); x = (x + x);", "[1 0 [] [8 4 10 20 30 40 50 60 70]]"},
		{"x = g(5);", "[1 0 [8] [10 4 10 20 30 40 50 60 70]]"},
		{"p = q; q = 9; return p;", "[1 2 [] " + same + "]"},
	})
}

// P10.1: elements, and their edges: neither another array's words, nor another unit's.
func TestElements(t *testing.T) {
	examples(t, []example{
		{"return a[0];", "[1 10 [] " + same + "]"},
		{"return a[q];", "[1 30 [] " + same + "]"},
		{"return b[0];", "[1 40 [] " + same + "]"},
		{"return b[p];", "[1 50 [] " + same + "]"},
		{"return a[3];", "[2 0 [] " + same + "]"},
		{"return a[(0 - 1)];", "[2 0 [] " + same + "]"},
		{"return a[65533];", "[2 0 [] " + same + "]"},
		{"return b[q];", "[2 0 [] " + same + "]"},
		{"return b[65535];", "[2 0 [] " + same + "]"},
		{"return a[(a[0] - (b[0] >> 2))];", "[1 10 [] " + same + "]"},
		{"return a[a[0]];", "[2 0 [] " + same + "]"},
		{"say 1; say a[9]; say 2;", "[2 0 [1] " + same + "]"},
		{"a[0] = 7;", "[1 0 [] [3 4 7 20 30 40 50 60 70]]"},
		{"a[q] = a[p];", "[1 0 [] [3 4 10 20 20 40 50 60 70]]"},
		{"b[0] = 7; b[1] = 8;", "[1 0 [] [3 4 10 20 30 7 8 60 70]]"},
		{"a[3] = 7;", "[2 0 [] " + same + "]"},
		{"b[q] = 7;", "[2 0 [] " + same + "]"},
		{"a[65535] = 7;", "[2 0 [] " + same + "]"},
		{"a[(0 - 2)] = 7;", "[2 0 [] " + same + "]"},
		{"a[1] = s(0); return a[1];", "[1 7 [] [3 4 10 7 30 7 50 60 70]]"},
		{"a[1] = 9; return ((p << 4) + q);", "[1 18 [] [3 4 10 9 30 40 50 60 70]]"},
	})
}

// P10.1: an edge is asked behind all that is reckoned for the element, and ahead of all else.
func TestEdgesInOrder(t *testing.T) {
	examples(t, []example{
		{"a[3] = g(5);", "[2 0 [8] [8 4 10 20 30 40 50 60 70]]"},
		{"a[g(5)] = g(6);", "[2 0 [8 14] [14 4 10 20 30 40 50 60 70]]"},
		{"a[9] = a[g(5)];", "[2 0 [8] [8 4 10 20 30 40 50 60 70]]"},
		{"a[a[3]] = g(6);", "[2 0 [] " + same + "]"},
		{"a[(x - 3)] = g(6);", "[1 0 [9] [9 4 12 20 30 40 50 60 70]]"},
		{"a[(x - 3)] = (g(1) + (x - 4));", "[1 0 [4] [4 4 2 20 30 40 50 60 70]]"},
		{"return (g(1) + a[3]);", "[2 0 [4] [4 4 10 20 30 40 50 60 70]]"},
		{"return (a[3] + g(1));", "[2 0 [] " + same + "]"},
		{"return l(g(1), a[3], g(2), 4);", "[2 0 [4] [4 4 10 20 30 40 50 60 70]]"},
		{"x = a[3];", "[2 0 [] " + same + "]"},
	})
}

// P10.1: each operation, the first one ahead of the second one.
func TestOperations(t *testing.T) {
	for sign, want := range map[string]int{
		"+": 3, "-": 65535, "*": 2, "&": 0, "|": 3, "^": 3, "<": 1, "==": 0, "<<": 4, ">>": 0,
	} {
		inUnit(t, "return (p "+sign+" q);").comes(t, fmt.Sprintf("[1 %d [] %s]", want, same))
	}
	examples(t, []example{
		{"return (q < p);", "[1 0 [] " + same + "]"},
		{"return (q >> p);", "[1 1 [] " + same + "]"},
		{"return (q - p);", "[1 1 [] " + same + "]"},
		{"return (x == 3);", "[1 1 [] " + same + "]"},
		{"return ((x * y) - (p + q));", "[1 9 [] " + same + "]"},
		{"return (x - g(1));", "[1 1 [4] [4 4 10 20 30 40 50 60 70]]"},
		{"return (g(1) - x);", "[1 65534 [4] [4 4 10 20 30 40 50 60 70]]"},
	})
}

// P10.1: If and While, within one another, and both ways past them.
func TestIfsAndWhiles(t *testing.T) {
	examples(t, []example{
		{"if p { say 1; } say 2;", "[1 0 [1 2] " + same + "]"},
		{"if 0 { say 1; } say 2;", "[1 0 [2] " + same + "]"},
		{"if p { say 1; } else { say 2; } say 3;", "[1 0 [1 3] " + same + "]"},
		{"if 0 { say 1; } else { say 2; } say 3;", "[1 0 [2 3] " + same + "]"},
		{"if 65535 { } else { say 2; } say 3;", "[1 0 [3] " + same + "]"},
		{"if 0 { } else { say 2; } say 3;", "[1 0 [2 3] " + same + "]"},
		{"if 0 { } if 1 { } else { } say 3;", "[1 0 [3] " + same + "]"},
		{"if p { if 0 { say 1; } else { say 2; } } else { say 3; }", "[1 0 [2] " + same + "]"},
		{"if 0 { say 1; } else { if q { say 2; } else { say 3; } } say 4;", "[1 0 [2 4] " + same + "]"},
		{"if a[3] { say 1; }", "[2 0 [] " + same + "]"},
		{"while 0 { say 1; } say 2;", "[1 0 [2] " + same + "]"},
		{"while (x < 6) { say x; x = (x + 1); } say 9;", "[1 0 [3 4 5 9] [6 4 10 20 30 40 50 60 70]]"},
		{"while q { q = (q - 1); p = 2; while p { p = (p - 1); say ((q << 4) + p); } }", "[1 0 [17 16 1 0] " + same + "]"},
		{"while p { if (q == 4) { return q; } else { q = (q + 1); } }", "[1 4 [] " + same + "]"},
		{"while g(0) { } say 1;", "[1 0 [3 1] " + same + "]"},
		{"while a[p] { p = (p + 1); }", "[2 0 [] " + same + "]"},
	})
	inUnit(t, "say 1; while 1 { }").comes(t, "[3 0 [1] "+same+"]")
}

// P10.1: args one by one, in their order; each call has its own words, and what stands in an expression ahead of it stays.
func TestAsks(t *testing.T) {
	examples(t, []example{
		{"return l(1, 2, 3, 4);", "[1 0 [1 2 3 4] " + same + "]"},
		{"return l(g(1), g(2), x, q);", "[1 0 [4 6 2 4 6 2] [6 4 10 20 30 40 50 60 70]]"},
		{"return m(1, 2, 3, 4);", "[1 4 [1 2 3] [3 4 10 20 30 9 50 60 70]]"},
		{"return (g(3) + p);", "[1 7 [6] [6 4 10 20 30 40 50 60 70]]"},
		{"return (9 - (g(1) + (g(g(1)) * 2)));", "[1 65535 [4 5 7] [7 4 10 20 30 40 50 60 70]]"},
		{"return one.s(1);", "[1 8 [] [3 4 10 20 30 40 8 60 70]]"},
		{"return (s(0) + one.s(1));", "[1 15 [] [3 4 10 20 30 7 8 60 70]]"},
		{"if (p < 5) { return (f((p + 1), q) + p); } return 100;", "[1 110 [] " + same + "]"},
	})
}

// P10.1: a name is a param first; arrays and functions have names for themselves.
func TestNamesThatMeet(t *testing.T) {
	source := "unit x var x var f array a 2 open f(x, a) { x = (x + 1); a[1] = (a + x); f = (f + 1); return (x(a[1]) + x); } func x(f) { f = (f << 1); return (f + x); } open a() { x = 9; return f(x, f); }"
	of(t, "x", "f", []int{5, 7}, source).comes(t, "[1 32 [] [0 1 0 13]]")
	of(t, "x", "a", nil, source).comes(t, "[1 39 [] [9 1 0 10]]")
}

// P10.1: as many words are told as may be, and one more.
func TestLong(t *testing.T) {
	all := strings.TrimSuffix(strings.Repeat("3 ", 500), " ")
	examples(t, []example{
		{"p = 0; while (p < 500) { say 3; p = (p + 1); } return 8;", "[1 8 [" + all + "] " + same + "]"},
		{"p = 0; while (p < 501) { say 3; p = (p + 1); x = p; } return 8;", "[6 0 [" + all + "] [500 4 10 20 30 40 50 60 70]]"},
		{"p = 0; while (p < 500) { say 3; p = (p + 1); } say a[3];", "[2 0 [" + all + "] " + same + "]"},
	})
}

// P10.1: as many frames as may be, and one more, by calls of one's own, by gates, and by both.
func TestDeep(t *testing.T) {
	for _, ask := range []string{"f", "one.f", "two.f"} {
		one := "unit one var x open f(p) { x = (x + 1); if p { return (" + ask + "((p - 1)) + 1); } say x; return 0; }"
		two := "unit two var y open f(p) { y = (y + 1); if p { return (one.f((p - 1)) + 1); } return 0; }"
		for _, words := range []int{0, 1, 19, 20, 21, 65535} {
			c := of(t, "one", "f", []int{words}, one, two)
			want := c.called(t, 0, api.MaxFuel)
			if end := want.end; (end == api.Done) != (words < api.MaxDeep) || end != api.Done && end != api.Deep {
				t.Errorf("%q is asked with %d: %v", ask, words, want)
			}
			c.comes(t, want.String())
		}
	}
	examples(t, []example{
		{"return f((p + 1), g(p));", "[5 0 [4 6 9 13 18 24 31 39 48 58 69 81 94 108 123 139 156 174 193] [193 4 10 20 30 40 50 60 70]]"},
		{"say p; return (f((p + 1), 0) + a[9]);", "[5 0 [1 2 3 4 5 6 7 8 9 10 11 12 13 14 15 16 17 18 19 20] " + same + "]"},
	})
}

// behind an image a part that makes so many frames, and then calls an entry; and a call of it.
func behind(m api.Image, frames, part, entry int, args []int) api.Image {
	var code []api.Instr
	for i := 1; i < frames; i++ {
		code = append(code, api.Instr{Op: api.Call, A: 2 * i}, api.Instr{Op: api.Ret})
	}
	for _, n := range args {
		code = append(code, api.Instr{Op: api.Push, A: n})
	}
	code = append(code, api.Instr{Op: api.Gate, A: part, B: entry, C: len(args)}, api.Instr{Op: api.Ret})
	to := 0
	if len(m.Parts) > 0 {
		to = m.Parts[len(m.Parts)-1].To
	}
	parts := append(m.Parts[:len(m.Parts):len(m.Parts)], api.Part{Code: code, Entries: make([]api.Entry, 1), From: to, To: to})
	return api.Image{Parts: parts}
}

// P10.1: a call in a program is one frame, and nothing else is any: so it is with any number of frames ahead.
func TestFramesAhead(t *testing.T) {
	c := of(t, "one", "f", []int{2},
		"unit one var x array a 3 open f(p) { x = (x + 1); a[g(p)] = 5; return (two.h(a[p]) + g(1)); } func g(p) { say p; return p; }",
		"unit two open h(p) { say p; while p { p = k((p - 1)); } return 6; } func k(p) { return p; }")
	for frames := 1; frames < api.MaxDeep; frames++ {
		want := c.called(t, frames, api.MaxFuel)
		if (want.end == api.Done) != (frames < 18) {
			t.Errorf("with %d frames ahead: %v", frames, want)
		}
		m := behind(image(t, c.p), frames, 0, 0, c.args)
		by := call{p: append(c.p[:2:2], program(t, "unit by open f() { }")...), l: c.l, unit: "by", fun: "f"}
		if got := by.run(t, m, flat(c.l)); got.String() != want.String() {
			t.Errorf("with %d frames ahead: %v, want %v", frames, got, want)
		}
	}
}

// P10.1: units call one another: the entries are the open functions alone, wherever others stand between them.
func TestUnitsOfAProgram(t *testing.T) {
	sources := []string{
		"unit c var x func p() { return 1; } open f() { x = (x + 1); return (a.g(3) + p()); } func q() { return 2; } open g(p) { x = (x + p); return x; }",
		"unit a var x open f() { return c.f(); } func h(p) { return (p << 8); } func k() { } open g(p) { x = h(p); return (c.g(5) + x); }",
		"unit b array x 2 open f(p) { x[p] = (c.g(1) + a.f()); return (x[0] + x[1]); } open g() { return b.f(0); }",
	}
	of(t, "b", "f", []int{1}, sources...).comes(t, "[1 777 [] [7 768 0 777]]")
	of(t, "b", "f", []int{2}, sources...).comes(t, "[2 0 [] [7 768 0 0]]")
	of(t, "b", "g", nil, sources...).comes(t, "[1 777 [] [7 768 777 0]]")
	of(t, "a", "g", []int{3}, sources...).comes(t, "[1 773 [] [5 768 0 0]]")
	of(t, "c", "f", nil, sources...).comes(t, "[1 775 [] [6 768 0 0]]")
	of(t, "c", "q", nil, sources...).comes(t, "[1 2 [] [0 0 0 0]]")
	of(t, "a", "h", []int{2}, sources...).comes(t, "[1 512 [] [0 0 0 0]]")
}

// P10.1: functions begin where it is told, open or not, with bodies or without, as many as may be.
func TestWhereFunctionsBegin(t *testing.T) {
	var source strings.Builder
	source.WriteString("unit one")
	for i := range api.MaxFuncs {
		fmt.Fprintf(&source, " %s f%d(%s) { %s }", []string{"open", "func"}[i%3/2], i, []string{"", "p", "p, q", "p, q, r", "p, q, r, s"}[i%5], []string{"", fmt.Sprintf("return f%d(%s);", 7-i, []string{"", "1", "1, 2", "1, 2, 3", "1, 2, 3, 4"}[(7-i)%5]), fmt.Sprintf("say %d;", i)}[i%3])
	}
	for i := range api.MaxFuncs {
		c := of(t, "one", fmt.Sprint("f", i), []int{9, 8, 7, 6}[:i%5], source.String())
		c.comes(t, c.called(t, 0, api.MaxFuel).String())
	}
}

// P10.1: a unit's words are those from a base on, wherever that is, and whatever other words its part has.
func TestBases(t *testing.T) {
	c := of(t, "one", "f", []int{5}, "unit one var x var y array a 3 array b 2 open f(p) { y = (x + p); x = 1; a[0] = y; a[2] = b[1]; b[1] = a[0]; b[0] = a[a[1]]; return (b[1] + x); }")
	copy(c.l[0].Vars, []int{3})
	copy(c.l[0].Arrays[1], []int{0, 50})
	want := c.called(t, 0, api.MaxFuel)
	if want.String() != "[1 9 [] [1 8 8 0 50 8 8]]" {
		t.Errorf("it does %v", want)
	}
	for base := range api.MaxData - 6 {
		code, begins := made(t, c.p, 0, base)
		part := api.Part{Code: code, Entries: []api.Entry{{At: begins[0], Params: 1}}, To: api.MaxData}
		data := make([]int, api.MaxData)
		for i := range data {
			data[i] = 1000 + i
		}
		copy(data[base:], flat(c.l))
		then := slices.Clone(data)
		copy(then[base:], want.data)
		got := c.run(t, api.Image{Parts: []api.Part{part}}, data)
		if (ending{want.end, want.value, want.told, then}).String() != got.String() {
			t.Errorf("from %d on it does %v", base, got)
		}
	}
}
