package link

import (
	"math"
	"testing"

	"barbican/api"
	"barbican/mach"
	"barbican/mem"
)

// behind an image a part more, by With, which keeps what holds of all calls.
func behind(t *testing.T, m api.Image, code []api.Instr, entries []api.Entry, words int) (api.Image, int) {
	t.Helper()
	was := told([]any{m, code, entries})
	x, at := With(m, code, entries, words)
	if told([]any{m, code, entries}) != was {
		t.Fatalf("With changed %s", was)
	}
	if at != len(m.Parts) || len(x.Parts) != at+1 || told(x.Parts[:at]) != told(m.Parts) {
		t.Fatalf("With(%s, %d) is %v, %d", was, words, x, at)
	}
	last := x.Parts[at]
	if told(last.Code) != told(code) || told(last.Entries) != told(entries) || last.From != mem.Words(m) || last.To != last.From+words {
		t.Fatalf("With(%s, %d) has the part %v", was, words, last)
	}
	return x, at
}

// P11.3: parts behind parts; each has its words behind those of all others.
func TestWith(t *testing.T) {
	code := []api.Instr{{Op: api.Push, A: 5}, {Op: api.Ret}}
	entries := []api.Entry{{At: 1, Params: 2}, {}}
	m := linked(t, program(t, "unit one var x array a 3 open f(p) { return p; }", "unit two var x open g() { }"))
	for _, start := range []api.Image{{}, m} {
		x := start
		for i, words := range []int{3, 0, 2, 1, 40, 0} {
			var at int
			if x, at = behind(t, x, code, entries, words); at != len(start.Parts)+i {
				t.Errorf("%d", at)
			}
		}
	}
	x, at := With(m, code, entries, 7)
	if got := outline(x); got != "0-4 [1] 4-5 [0] 5-12 [2 0]" || at != 2 {
		t.Errorf("%s, %d", got, at)
	}
}

// P11.3: a part without anything.
func TestWithNothing(t *testing.T) {
	for _, m := range []api.Image{{}, {Parts: []api.Part{}}, linked(t, program(t, most("one")))} {
		for _, code := range [][]api.Instr{nil, {}} {
			for _, entries := range [][]api.Entry{nil, {}} {
				x, _ := behind(t, m, code, entries, 0)
				if e := mem.Check(x); e != api.OK {
					t.Errorf("%v: %d", x, int(e))
				}
			}
		}
	}
}

// P11.3: whether it may be is not asked.
func TestWithAnything(t *testing.T) {
	odd := append([]int{0, 1, 250, 251, 1200, 1 << 40}, nonWords...)
	five := linked(t, program(t, "unit a", "unit b", most("c"), "unit d", "unit e"))
	six, at := behind(t, five, nil, nil, 1)
	if at != api.MaxParts || mem.Check(six) != api.ErrSize {
		t.Errorf("%v, %d", six, at)
	}
	for _, n := range odd {
		bad := api.Image{Parts: []api.Part{{From: n, To: 3}, {Code: []api.Instr{{Op: n, A: n, B: n, C: n}}, Entries: []api.Entry{{At: n, Params: n}}, From: -n, To: n}}}
		for _, m := range []api.Image{{}, five, six, bad} {
			for _, words := range odd {
				behind(t, m, bad.Parts[1].Code, bad.Parts[1].Entries, words)
			}
			behind(t, m, make([]api.Instr, api.MaxCode+1), make([]api.Entry, api.MaxEntries+1), n)
		}
	}
	x, _ := behind(t, api.Image{Parts: []api.Part{{To: math.MaxInt}}}, nil, nil, 1)
	if mem.Check(x) != api.ErrState {
		t.Errorf("%v", x)
	}
}

// pushes of words.
func pushes(l ...int) []api.Instr {
	var code []api.Instr
	for _, n := range l {
		code = append(code, api.Instr{Op: api.Push, A: n})
	}
	return code
}

// ask a gate with words.
func ask(part, entry int, l ...int) []api.Instr {
	return append(pushes(l...), api.Instr{Op: api.Gate, A: part, B: entry, C: len(l)})
}

// by a part with such code and three words of its own, behind the program: what comes of a run of it, over cells 1, 2 and so on, and words 90, 91 and 92.
func by(t *testing.T, p []api.Unit, code ...[]api.Instr) api.Outcome {
	t.Helper()
	var all []api.Instr
	for _, l := range code {
		all = append(all, l...)
	}
	m, at := behind(t, linked(t, p), all, []api.Entry{{}}, 3)
	o, e := mach.Run(m, append(words(t, p, counted(t, p)), 90, 91, 92), at, 0, nil, api.MaxFuel)
	if e != api.OK {
		t.Fatalf("Run of %v is refused with %d", m, int(e))
	}
	return o
}

var ret = []api.Instr{{Op: api.Ret}}

// The document's example: a part that anybody wrote calls an entry twice, and faults when it loads the word itself.
func TestExampleOfTheWhole(t *testing.T) {
	p := program(t, "unit one var x open f(p) { x = (x + p); return x; }")
	tell := []api.Instr{{Op: api.Tell}}
	for word, want := range map[int]string{
		0: "{4 0 [8 15] [15 90 91 92] [{1 0 0 [7] 1 true 8} {1 0 0 [7] 1 true 15}]}",
		1: "{1 90 [8 15] [15 90 91 92] [{1 0 0 [7] 1 true 8} {1 0 0 [7] 1 true 15}]}",
	} {
		o := by(t, p, ask(0, 0, 7), tell, ask(0, 0, 7), tell, pushes(word), []api.Instr{{Op: api.Load}, {Op: api.Ret}})
		if got := told(o); got != want {
			t.Errorf("the word %d is loaded: %s, want %s", word, got, want)
		}
	}
}

// What comes of it: a part that reaches for words of others faults, and they stay; so it does at a gate that none has opened.
func TestReachesForOthers(t *testing.T) {
	p := program(t,
		"unit one var x array a 2 func h() { x = 9; } open f(p) { a[p] = 8; return 3; } func k() { return h(); }",
		"unit two var y open g() { return one.f(0); }")
	for at := range 11 {
		want := "4 [1 2 3 4 90 91 92]"
		if at >= 4 && at < 7 {
			want = "1 [1 2 3 4 90 91 92]"
		}
		for _, code := range [][]api.Instr{
			append(pushes(at), api.Instr{Op: api.Load}),
			append(pushes(0, at, at+86), api.Instr{Op: api.Store}), // a word of its own stays what it is
		} {
			o := by(t, p, code, ret)
			if got := told(o.End) + " " + told(o.Data); got != want {
				t.Errorf("%v: %s, want %s", code, got, want)
			}
		}
	}
	for want, calls := range map[string][][]api.Instr{
		"4 [1 2 3 4 90 91 92]": {
			ask(0, 1), ask(0, 2), ask(0, 0), ask(0, 0, 1, 2), ask(1, 1), ask(1, 0, 1), ask(2, 1), ask(3, 0), ask(4, 0),
		},
		"1 [1 2 8 4 90 91 92]": {ask(0, 0, 1)},
		"1 [1 8 3 4 90 91 92]": {ask(1, 0), ask(0, 0, 0)},
		"2 [1 2 3 4 90 91 92]": {ask(0, 0, 2), ask(0, 0, 65535)},
	} {
		for _, code := range calls {
			o := by(t, p, code, ret)
			if got := told(o.End) + " " + told(o.Data); got != want {
				t.Errorf("%v: %s, want %s", code, got, want)
			}
		}
	}
}
