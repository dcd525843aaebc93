package mach

import (
	"math"
	"slices"
	"testing"

	"barbican/api"
)

// nonWords lie beyond both edges, near them and far off; the lowest bits of some look like a word.
var nonWords = []int{
	math.MinInt, math.MinInt32, -65536, -65535, -16, -1,
	65536, 65537, 65551, 1 << 31, 1<<32 + 1, math.MaxInt - 1, math.MaxInt,
}

// far lie outside all parts, entries and fuel; the lowest bits of some look like one.
var far = []int{
	math.MinInt, math.MinInt32, -1 << 32, -65536, -2, -1,
	100001, 1 << 31, 1 << 32, 1<<32 + 1, math.MaxInt - 1, math.MaxInt,
}

// op: an instruction, with as many of A, B and C as it has.
func op(kind int, l ...int) api.Instr {
	i := api.Instr{Op: kind}
	for k, to := range []*int{&i.A, &i.B, &i.C}[:len(l)] {
		*to = l[k]
	}
	return i
}

// join: code of pieces, each an instruction or a list of them.
func join(pieces ...any) []api.Instr {
	var l []api.Instr
	for _, p := range pieces {
		switch x := p.(type) {
		case api.Instr:
			l = append(l, x)
		case []api.Instr:
			l = append(l, x...)
		}
	}
	return l
}

func times(n int, l ...api.Instr) []api.Instr { return slices.Repeat(l, n) }

// pushes of the words, in their order.
func pushes(words ...int) []api.Instr {
	var l []api.Instr
	for _, n := range words {
		l = append(l, op(api.Push, n))
	}
	return l
}

// part of these words, with one entry at its beginning that takes params words.
func part(words, params int, pieces ...any) api.Part {
	return api.Part{Code: join(pieces...), Entries: []api.Entry{{Params: params}}, To: words}
}

// image of the parts, each with its words (To, as part tells it) behind those of the one ahead.
func image(l ...api.Part) api.Image {
	from := 0
	for k := range l {
		l[k].From, l[k].To = from, from+l[k].To
		from = l[k].To
	}
	return api.Image{Parts: l}
}

func clone(m api.Image) api.Image {
	c := api.Image{Parts: slices.Clone(m.Parts)}
	for k, p := range c.Parts {
		c.Parts[k].Code, c.Parts[k].Entries = slices.Clone(p.Code), slices.Clone(p.Entries)
	}
	return c
}

func same(a, b api.Image) bool {
	return slices.EqualFunc(a.Parts, b.Parts, func(p, q api.Part) bool {
		return p.From == q.From && p.To == q.To && slices.Equal(p.Code, q.Code) && slices.Equal(p.Entries, q.Entries)
	})
}

// sameOutcome: lists without elements may be nil or not.
func sameOutcome(a, b api.Outcome) bool {
	return a.End == b.End && a.Value == b.Value && slices.Equal(a.Told, b.Told) && slices.Equal(a.Data, b.Data) &&
		slices.EqualFunc(a.Calls, b.Calls, func(x, y api.Noted) bool {
			return x.By == y.By && x.Part == y.Part && x.Entry == y.Entry && slices.Equal(x.Args, y.Args) && x.Deep == y.Deep && x.Done == y.Done && x.Value == y.Value
		})
}

// ran: the outcome of a run that is not refused, and that leaves what was handed in as it was.
func ran(t *testing.T, m api.Image, data []int, part, entry int, args []int, fuel int) api.Outcome {
	t.Helper()
	was, wasData, wasArgs := clone(m), slices.Clone(data), slices.Clone(args)
	o, e := Run(m, data, part, entry, args, fuel)
	if e != api.OK {
		t.Fatalf("Run(%v, %v, %d, %d, %v, %d) is refused with %d", m, data, part, entry, args, fuel, int(e))
	}
	if !same(m, was) || !slices.Equal(data, wasData) || !slices.Equal(args, wasArgs) {
		t.Fatalf("Run changed %v, %v, %v", was, wasData, wasArgs)
	}
	return o
}

func refused(t *testing.T, m api.Image, data []int, part, entry int, args []int, fuel int, want api.Errno) {
	t.Helper()
	was, wasData, wasArgs := clone(m), slices.Clone(data), slices.Clone(args)
	if o, e := Run(m, data, part, entry, args, fuel); e != want || !sameOutcome(o, api.Outcome{}) {
		t.Fatalf("Run(.., %v, %d, %d, %v, %d) = %v, %d; want none, %d", data, part, entry, args, fuel, o, int(e), int(want))
	}
	if !same(m, was) || !slices.Equal(data, wasData) || !slices.Equal(args, wasArgs) {
		t.Fatalf("Run changed %v, %v, %v", was, wasData, wasArgs)
	}
}

// comes: the run of the first entry of the first part, without words, comes to this.
func comes(t *testing.T, m api.Image, data []int, fuel int, want api.Outcome) {
	t.Helper()
	if got := ran(t, m, data, 0, 0, nil, fuel); !sameOutcome(got, want) {
		t.Errorf("%v: %v, want %v", m, got, want)
	}
}

// ends: code of one part without words comes to this end, with this value, and to nothing else.
func ends(t *testing.T, end, value int, pieces ...any) {
	t.Helper()
	comes(t, image(part(0, 0, pieces...)), nil, api.MaxFuel, api.Outcome{End: end, Value: value})
}

// simple: an image of two parts in which all runs come to an end, with its words.
func simple() (api.Image, []int) {
	m := image(part(2, 0, op(api.Push, 1), op(api.Ret)), part(1, 2, op(api.Get, 1), op(api.Ret)))
	m.Parts[1].Entries = append(m.Parts[1].Entries, api.Entry{At: 1, Params: 4})
	return m, []int{5, 6, 7}
}

// P4.1: the first frame is of that part, at that entry, with these words.
func TestRunBegins(t *testing.T) {
	for p := range 3 {
		for y := range 3 {
			var parts []api.Part
			for k := range 3 {
				var q api.Part
				for j := range 3 {
					q.Entries = append(q.Entries, api.Entry{At: len(q.Code), Params: j})
					q.Code = append(q.Code, join(op(api.Get, 0), op(api.Tell), op(api.Get, 1), op(api.Tell), op(api.Get, 2), op(api.Tell), op(api.Push, 10*k+j), op(api.Ret))...)
				}
				parts = append(parts, q)
			}
			args := []int{65535, 4}[:y]
			want := api.Outcome{End: api.Done, Value: 10*p + y, Told: append(slices.Clone(args), 0, 0, 0)[:3]}
			if got := ran(t, image(parts...), nil, p, y, args, 50); !sameOutcome(got, want) {
				t.Errorf("entry %d of part %d: %v, want %v", y, p, got, want)
			}
		}
	}
}

// P4.1: of the parts and entries that there are not.
func TestRunRefusesNone(t *testing.T) {
	m, data := simple()
	for _, n := range append([]int{2, 3, 4, 5}, far...) {
		refused(t, m, data, n, 0, nil, 9, api.ErrNone)
		refused(t, m, data, 0, n, nil, 9, api.ErrNone)
		refused(t, m, data, 1, n, nil, 9, api.ErrNone)
		refused(t, m, data, n, n, nil, 9, api.ErrNone)
		refused(t, api.Image{}, nil, n, 0, nil, 9, api.ErrNone)
	}
	refused(t, m, data, 0, 1, nil, 9, api.ErrNone)
	refused(t, api.Image{}, nil, 0, 0, nil, 9, api.ErrNone)
	refused(t, image(api.Part{}), nil, 0, 0, nil, 9, api.ErrNone)
	refused(t, image(api.Part{Code: times(3, op(api.Ret))}), nil, 0, 0, nil, 9, api.ErrNone)
}

// P4.1: each number of words against each other one.
func TestRunRefusesCounts(t *testing.T) {
	for params := range api.MaxParams + 1 {
		m := image(part(0, params, op(api.Get, 3), op(api.Ret)))
		for n := range 12 {
			args := slices.Repeat([]int{3}, n)
			if n != params {
				refused(t, m, nil, 0, 0, args, 9, api.ErrCount)
				continue
			}
			want := 0
			if n == 4 {
				want = 3
			}
			if got := ran(t, m, nil, 0, 0, args, 9); got.End != api.Done || got.Value != want {
				t.Errorf("with %d words: %v", n, got)
			}
		}
		refused(t, m, nil, 0, 0, make([]int, 100000), 9, api.ErrCount)
	}
}

// P4.1: fuel, and words that are none, wherever they stand.
func TestRunRefusesRanges(t *testing.T) {
	m, data := simple()
	for _, n := range far {
		refused(t, m, data, 0, 0, nil, n, api.ErrRange)
		refused(t, m, data, 1, 0, []int{1, n}, n, api.ErrRange)
	}
	for _, n := range nonWords {
		refused(t, m, data, 1, 0, []int{n, 0}, 9, api.ErrRange)
		refused(t, m, data, 1, 0, []int{0, n}, 9, api.ErrRange)
		refused(t, m, data, 1, 0, []int{n, n}, 0, api.ErrRange)
		for at := range 4 {
			args := make([]int, 4)
			args[at] = n
			refused(t, m, data, 1, 1, args, 9, api.ErrRange)
		}
	}
	for _, fuel := range []int{2, 3, 99999, 100000} {
		if got := ran(t, m, data, 1, 0, []int{0, 65535}, fuel); got.End != api.Done || got.Value != 65535 {
			t.Errorf("with fuel %d: %v", fuel, got)
		}
	}
	refused(t, m, data, 0, 0, nil, -1, api.ErrRange)
	refused(t, m, data, 0, 0, nil, 100001, api.ErrRange)
}

// asked: what is handed to Run.
type asked struct {
	m                 api.Image
	data, args        []int
	part, entry, fuel int
}

// wrong: what may be wrong with it, that first which is told first.
func wrong() []struct {
	make func(a *asked)
	want api.Errno
} {
	return []struct {
		make func(a *asked)
		want api.Errno
	}{
		{func(a *asked) { a.m.Parts = append(a.m.Parts, make([]api.Part, 4)...) }, api.ErrSize},
		{func(a *asked) { a.m.Parts[0].Code[0].Op = 16 }, api.ErrKind},
		{func(a *asked) { a.m.Parts[0].Code[1].A = 1 }, api.ErrRange},
		{func(a *asked) { a.m.Parts[0].Entries[0].At = 2 }, api.ErrRange},
		{func(a *asked) { a.m.Parts[1].To = 251 }, api.ErrState},
		{func(a *asked) { a.data = append(a.data, 1) }, api.ErrForm},
		{func(a *asked) { a.data[0] = 65536 }, api.ErrRange},
		{func(a *asked) { a.part = 7 }, api.ErrNone},
		{func(a *asked) { a.entry = 5 }, api.ErrNone},
		{func(a *asked) { a.args = append(a.args, 0) }, api.ErrCount},
		{func(a *asked) { a.fuel = -1 }, api.ErrRange},
		{func(a *asked) { a.args[1] = -1 }, api.ErrRange},
	}
}

// P4.1: of each two that are wrong the one that is named first is told.
func TestRunRefusesInOrder(t *testing.T) {
	l := wrong()
	for i, first := range l {
		for _, second := range l[i:] {
			m, data := simple()
			a := asked{m: m, data: data, part: 1, args: []int{3, 4}, fuel: 9}
			second.make(&a)
			first.make(&a)
			refused(t, a.m, a.data, a.part, a.entry, a.args, a.fuel, first.want)
		}
	}
}

// P4.1: with every end comes what was told, stored and noted until then, and a Value with Done alone.
func TestRunTellsAllWithEachEnd(t *testing.T) {
	for _, c := range []struct {
		end, value, fuel int
		tail             []api.Instr
	}{
		{api.Done, 9, 50, join(op(api.Push, 9), op(api.Ret))},
		{api.Edge, 0, 50, join(op(api.Push, 9), op(api.Trap))},
		{api.Spent, 0, 11, join(op(api.Push, 9), op(api.Ret))},
		{api.Fault, 0, 50, join(op(api.Push, 9), op(api.Drop), op(api.Drop))},
		{api.Deep, 0, 50, join(op(api.Call, 8))},
	} {
		m := image(part(2, 0, op(api.Push, 4), op(api.Tell), op(api.Push, 1), op(api.Push, 8), op(api.Store), op(api.Push, 3), op(api.Gate, 1, 0, 1), op(api.Drop), c.tail), part(0, 1, op(api.Get, 0), op(api.Ret)))
		comes(t, m, []int{6, 7}, c.fuel, api.Outcome{
			End: c.end, Value: c.value, Told: []int{4}, Data: []int{6, 8},
			Calls: []api.Noted{{By: 0, Part: 1, Entry: 0, Args: []int{3}, Deep: 1, Done: true, Value: 3}},
		})
	}
}

// P4.1: all lists of an answer are new memory, and none shares any with another one.
func TestRunSharesNothing(t *testing.T) {
	callee := part(2, 4, op(api.Push, 5), op(api.Tell), op(api.Get, 1), op(api.Ret))
	callee.Entries = append(callee.Entries, api.Entry{At: 2})
	m := image(part(3, 2, times(6, join(pushes(1, 2, 3, 4), op(api.Gate, 1, 0, 4), op(api.Gate, 1, 1, 0))...), op(api.Ret)), callee)
	data := slices.Grow([]int{1, 2, 3, 4, 5}, 20)
	args := slices.Grow([]int{8, 9}, 20)
	was, all, allArgs := clone(m), slices.Clone(data[:cap(data)]), slices.Clone(args[:cap(args)])
	first, _ := Run(m, data, 0, 0, args, 100)
	second, _ := Run(m, data, 0, 0, args, 100)
	lists := listsOf(first)
	if len(lists) != 14 || !sameOutcome(first, second) {
		t.Fatalf("two runs: %v and %v", first, second)
	}
	for k, l := range lists {
		for i := range l[:cap(l)] {
			l[:cap(l)][i] = -100 - k
		}
		for j, other := range lists[:k] {
			if slices.Contains(other[:cap(other)], -100-k) {
				t.Errorf("the lists %d and %d share memory", j, k)
			}
		}
	}
	for i := range first.Calls[:cap(first.Calls)] {
		first.Calls[:cap(first.Calls)][i].Value = -7
	}
	if third, _ := Run(m, data, 0, 0, args, 100); !sameOutcome(second, third) {
		t.Errorf("an answer shares memory with another one: %v, %v", second, third)
	}
	if !same(m, was) || !slices.Equal(data[:cap(data)], all) || !slices.Equal(args[:cap(args)], allArgs) {
		t.Errorf("what was handed in was changed, or is shared")
	}
}

func listsOf(o api.Outcome) [][]int {
	l := [][]int{o.Told, o.Data}
	for _, c := range o.Calls {
		l = append(l, c.Args)
	}
	return l
}

// P4.2: a frame's locals are at first its words, then 0; its list is empty.
func TestFramesBegin(t *testing.T) {
	show := func(n int) []api.Instr {
		var l []api.Instr
		for k := range api.Locals {
			l = append(l, op(api.Get, k), op(api.Tell))
		}
		return append(l, op(api.Push, n), op(api.Ret))
	}
	for n := range 5 {
		want := append([]int{11, 12, 13, 14}[:n:n], make([]int, 8-n)...)
		args := []int{11, 12, 13, 14}[:n]
		if got := ran(t, image(part(0, n, show(3))), nil, 0, 0, args, 50); !sameOutcome(got, api.Outcome{End: api.Done, Value: 3, Told: want}) {
			t.Errorf("a first frame with %d words: %v", n, got)
		}
		by := join(pushes(77, 78), pushes(args...))
		at := len(by) + 2
		called := image(part(0, 0, by, op(api.Call, at, n), op(api.Ret), show(4)))
		comes(t, called, nil, 90, api.Outcome{End: api.Done, Value: 4, Told: want})
		gated := image(part(0, 0, by, op(api.Gate, 1, 0, n), op(api.Ret)), part(0, n, show(5)))
		comes(t, gated, nil, 90, api.Outcome{End: api.Done, Value: 5, Told: want, Calls: []api.Noted{{Part: 1, Args: args, Deep: 1, Done: true, Value: 5}}})
	}
}

// P4.2: no frame reaches the words or the locals of another one, not even of its own part.
func TestFramesAreApart(t *testing.T) {
	ends(t, api.Fault, 0, pushes(1, 2, 3), op(api.Call, 5, 1), op(api.Ret), op(api.Drop), op(api.Push, 9), op(api.Ret))
	ends(t, api.Fault, 0, pushes(1, 2, 3), op(api.Call, 5, 3), op(api.Ret), op(api.Ret))
	own := join(op(api.Push, 6), op(api.Put, 2), op(api.Push, 5), op(api.Call, 10), op(api.Tell), op(api.Tell), op(api.Get, 2), op(api.Tell), op(api.Push, 1), op(api.Ret))
	other := join(pushes(21, 22, 23), op(api.Push, 7), op(api.Put, 2), op(api.Push, 24), op(api.Ret))
	comes(t, image(part(0, 0, own, other)), nil, 90, api.Outcome{End: api.Done, Value: 1, Told: []int{24, 5, 6}})
	own[3] = op(api.Gate, 1)
	comes(t, image(part(0, 0, own), part(0, 0, other)), nil, 90, api.Outcome{End: api.Done, Value: 1, Told: []int{24, 5, 6}, Calls: []api.Noted{{Part: 1, Deep: 1, Done: true, Value: 24}}})
}

// P4.2: each step takes one, and that there is none is asked ahead of all else.
func TestFuel(t *testing.T) {
	for _, c := range []struct {
		steps, end int
		code       []api.Instr
	}{
		{4, api.Done, join(op(api.Push, 1), op(api.Jump, 3), op(api.Trap), op(api.Dup), op(api.Ret))},
		{1, api.Edge, join(op(api.Trap))},
		{1, api.Fault, join(op(api.Drop))},
		{1, api.Fault, join(op(api.Gate, 4))},
		{2, api.Fault, join(op(api.Jump, 1199))},
		{2, api.Fault, join(op(api.Call, 1))},
		{41, api.Fault, times(50, op(api.Push, 1))},
		{20, api.Deep, join(op(api.Call))},
		{1502, api.Long, join(op(api.Push, 1), op(api.Tell), op(api.Jump, 0))},
		{6, api.Done, join(op(api.Push), op(api.Jz, 3), op(api.Trap), op(api.Call, 5), op(api.Ret), op(api.Push, 1), op(api.Ret))},
	} {
		m := image(part(0, 0, c.code))
		for fuel := range c.steps + 3 {
			want := c.end
			if fuel < c.steps {
				want = api.Spent
			}
			if got := ran(t, m, nil, 0, 0, nil, fuel); got.End != want {
				t.Fatalf("%v with fuel %d: %v, want the end %d", c.code[:min(9, len(c.code))], fuel, got, want)
			}
		}
	}
	forever := image(part(0, 0, op(api.Jump)))
	comes(t, forever, nil, api.MaxFuel, api.Outcome{End: api.Spent})
	comes(t, forever, nil, 0, api.Outcome{End: api.Spent})
}

// P4.2: the greatest fuel, to its last unit: the sixth of each seven steps counts.
func TestGreatestFuel(t *testing.T) {
	m := image(part(1, 0, op(api.Push), op(api.Dup), op(api.Load), op(api.Push, 1), op(api.Do, api.Add), op(api.Store), op(api.Jump)))
	for _, fuel := range []int{100000, 99999, 99994, 99993, 99992, 6, 5, 0} {
		comes(t, m, []int{0}, fuel, api.Outcome{End: api.Spent, Data: []int{(fuel + 1) / 7}})
	}
}

// P4.2: the place behind the code, by each way to it.
func TestBehindTheCode(t *testing.T) {
	ends(t, api.Fault, 0, op(api.Push, 1))
	ends(t, api.Fault, 0, op(api.Jump, 1))
	ends(t, api.Fault, 0, op(api.Jump, 1199))
	ends(t, api.Fault, 0, op(api.Push), op(api.Jz, 2))
	ends(t, api.Fault, 0, op(api.Push), op(api.Jz, 1199))
	ends(t, api.Fault, 0, op(api.Push, 1), op(api.Jz, 0))
	ends(t, api.Fault, 0, op(api.Call, 1))
	ends(t, api.Fault, 0, op(api.Call, 1199))
	ends(t, api.Fault, 0, op(api.Call, 1), op(api.Drop))
	ends(t, api.Edge, 0, times(1199, op(api.Jump, 1199)), op(api.Trap))
	last := join(times(599, op(api.Push, 1), op(api.Drop)), op(api.Push, 7), op(api.Ret))
	ends(t, api.Done, 7, last)
	ends(t, api.Fault, 0, last[:1199])
	comes(t, image(part(0, 0, op(api.Push, 1)), part(0, 0, times(9, op(api.Ret)))), nil, 9, api.Outcome{End: api.Fault})
}

// takers: what each instruction takes, and how many words more there are behind it.
var takers = []struct {
	i           api.Instr
	takes, more int
}{
	{op(api.Push, 3), 0, 1}, {op(api.Drop), 1, -1}, {op(api.Dup), 1, 1}, {op(api.Get, 7), 0, 1}, {op(api.Put, 7), 1, -1},
	{op(api.Load), 1, 0}, {op(api.Store), 2, -2}, {op(api.Do, api.Mul), 2, -1}, {op(api.Jump, 50), 0, 0}, {op(api.Jz, 50), 1, -1},
	{op(api.Call, 60), 0, 1}, {op(api.Call, 60, 1), 1, 0}, {op(api.Call, 60, 2), 2, -1}, {op(api.Call, 60, 3), 3, -2}, {op(api.Call, 60, 4), 4, -3},
	{op(api.Gate, 1, 0, 0), 0, 1}, {op(api.Gate, 1, 1, 1), 1, 0}, {op(api.Gate, 1, 2, 2), 2, -1}, {op(api.Gate, 1, 3, 3), 3, -2}, {op(api.Gate, 1, 4, 4), 4, -3},
	{op(api.Tell), 1, -1},
}

// P4.2: each instruction, with each number of words: too few, too many, and how many there are behind it.
func TestNumbersOfWords(t *testing.T) {
	for _, c := range takers {
		for n := range api.MaxStack + 1 {
			first := join(times(n, op(api.Push, 0)), c.i)
			head := join(first, times(50-len(first), op(api.Jump, 50)))
			want := n + c.more
			if n < c.takes || want > api.MaxStack {
				m := takersImage(head, nil)
				if got := ran(t, m, []int{0}, 0, 0, nil, 500); got.End != api.Fault {
					t.Errorf("%v with %d words: %v, want a fault", c.i, n, got)
				}
				continue
			}
			for drops := range want + 2 {
				end := api.Edge
				if drops > want {
					end = api.Fault
				}
				m := takersImage(head, times(drops, op(api.Drop)))
				if got := ran(t, m, []int{0}, 0, 0, nil, 500); got.End != end {
					t.Fatalf("%v with %d words, and %d dropped: %v, want the end %d", c.i, n, drops, got, end)
				}
			}
		}
	}
}

// takersImage: head is of 50 instructions; behind it are drops, and a trap; at 60 stands code that returns.
func takersImage(head, drops []api.Instr) api.Image {
	tail := []api.Entry{{}, {Params: 1}, {Params: 2}, {Params: 3}, {Params: 4}}
	at := join(head, op(api.Jump, 62), times(9, op(api.Trap)), op(api.Push, 1), op(api.Ret), drops, op(api.Trap))
	return image(part(1, 0, at), api.Part{Code: join(op(api.Push, 2), op(api.Ret)), Entries: tail})
}

// P4.2: of Ret and Trap.
func TestNumbersOfWordsAtEnds(t *testing.T) {
	ends(t, api.Fault, 0, op(api.Ret))
	ends(t, api.Done, 3, pushes(1, 2, 3), op(api.Ret))
	ends(t, api.Done, 1, times(40, op(api.Push, 1)), op(api.Ret))
	ends(t, api.Edge, 0, op(api.Trap))
	ends(t, api.Edge, 0, times(40, op(api.Push, 1)), op(api.Trap))
	ends(t, api.Fault, 0, times(41, op(api.Push, 1)), op(api.Trap))
}

// P4.2: how many words a frame may have does not hang on the other frames.
func TestEachFrameHasItsOwnRoom(t *testing.T) {
	ends(t, api.Done, 5, times(39, op(api.Push, 1)), op(api.Call, 41), op(api.Ret), times(39, op(api.Push, 1)), op(api.Push, 5), op(api.Ret))
	ends(t, api.Fault, 0, times(39, op(api.Push, 1)), op(api.Call, 41), op(api.Ret), times(41, op(api.Push, 1)), op(api.Ret))
}
