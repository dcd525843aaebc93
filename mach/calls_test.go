package mach

import (
	"slices"
	"testing"

	"barbican/api"
)

// P4.4: Call takes the last B words, in their order, and goes on behind itself.
func TestCall(t *testing.T) {
	for n := range api.MaxParams + 1 {
		words := []int{31, 32, 33, 34, 35}
		at := len(words) + 3
		want := append(slices.Clone(words[5-n:]), make([]int, 4-n)...)
		m := image(part(0, 0, pushes(words...), op(api.Call, at, n), op(api.Tell), op(api.Ret), op(api.Get, 0), op(api.Tell), op(api.Get, 1), op(api.Tell), op(api.Get, 2), op(api.Tell), op(api.Get, 3), op(api.Tell), op(api.Push, 9), op(api.Ret)))
		comes(t, m, nil, 50, api.Outcome{End: api.Done, Value: words[4-n], Told: append(want, 9)})
	}
}

// P4.4: code may call itself, as deep as frames go.
func TestCallDeep(t *testing.T) {
	down := join(op(api.Get, 0), op(api.Jz, 8), op(api.Get, 0), op(api.Push, 1), op(api.Do, api.Sub), op(api.Call, 0, 1), op(api.Push, 1), op(api.Jump, 10), op(api.Push, 0), op(api.Ret), op(api.Do, api.Add), op(api.Ret))
	for n := range 30 {
		want := api.Outcome{End: api.Done, Value: n}
		if n > 19 {
			want = api.Outcome{End: api.Deep}
		}
		if got := ran(t, image(part(0, 1, down)), nil, 0, 0, []int{n}, 9999); !sameOutcome(got, want) {
			t.Errorf("%d calls in one another: %v, want %v", n, got, want)
		}
	}
}

// P4.4: frames that are gone do not count.
func TestCallsSideBySide(t *testing.T) {
	ends(t, api.Done, 6, times(50, op(api.Call, 102), op(api.Drop)), op(api.Push, 6), op(api.Ret), op(api.Push, 4), op(api.Ret))
}

// P4.4: too few words, and a gate that is none, are asked ahead of the number of frames.
func TestDeepIsAskedLast(t *testing.T) {
	// 19 calls of itself, counted by the local 0, then what is asked.
	dive := func(i api.Instr) api.Part {
		p := part(0, 1, op(api.Get, 0), op(api.Jz, 7), op(api.Get, 0), op(api.Push, 1), op(api.Do, api.Sub), op(api.Call, 0, 1), op(api.Ret), i, op(api.Push, 1), op(api.Ret))
		p.Entries = append(p.Entries, api.Entry{At: 8})
		return p
	}
	for _, c := range []struct {
		i    api.Instr
		n    int
		want int
	}{
		{op(api.Call, 8), 18, api.Done}, {op(api.Call, 8), 19, api.Deep}, {op(api.Call, 8), 20, api.Deep},
		{op(api.Call, 8, 1), 18, api.Fault}, {op(api.Call, 8, 1), 19, api.Fault},
		{op(api.Gate, 0, 1), 18, api.Done}, {op(api.Gate, 0, 1), 19, api.Deep},
		{op(api.Gate, 0, 0, 1), 18, api.Fault}, {op(api.Gate, 0, 0, 1), 19, api.Fault},
		{op(api.Gate, 0, 0, 0), 19, api.Fault}, {op(api.Gate, 0, 2, 0), 19, api.Fault}, {op(api.Gate, 1, 0, 0), 19, api.Fault},
		{op(api.Call, 1199), 19, api.Deep}, {op(api.Call, 1199), 18, api.Fault},
	} {
		if got := ran(t, image(dive(c.i)), nil, 0, 0, []int{c.n}, 9999); got.End != c.want {
			t.Errorf("%v with %d frames: %v, want the end %d", c.i, c.n+1, got, c.want)
		}
	}
}

// P4.4: every part and entry, with every number of words: those that there are, with the words that they take.
func TestGate(t *testing.T) {
	for p := range api.MaxParts {
		for y := range api.MaxEntries {
			for n := range api.MaxParams + 1 {
				gated(t, p, y, n)
			}
		}
	}
}

func gated(t *testing.T, p, y, n int) {
	t.Helper()
	answer := func(k int) []api.Instr {
		return join(op(api.Get, 0), op(api.Tell), op(api.Get, 3), op(api.Tell), op(api.Push, 100+k), op(api.Ret))
	}
	first := part(0, 0, pushes(40, 41, 42, 43, 44), op(api.Gate, p, y, n), op(api.Ret))
	second := api.Part{Code: join(answer(0), answer(1), answer(2)), Entries: []api.Entry{{At: 6, Params: 4}, {At: 12, Params: 0}, {At: 0, Params: 2}}}
	third := api.Part{Code: join(op(api.Trap), answer(3)), Entries: []api.Entry{{At: 1, Params: 1}}}
	var want api.Outcome
	note := func(value int, args ...int) api.Outcome {
		told := append(slices.Clone(args), 0, 0, 0, 0)
		return api.Outcome{End: api.Done, Value: value, Told: []int{told[0], told[3]}, Calls: []api.Noted{{By: 0, Part: p, Entry: y, Args: args, Deep: 1, Done: true, Value: value}}}
	}
	switch [3]int{p, y, n} {
	case [3]int{1, 0, 4}:
		want = note(101, 41, 42, 43, 44)
	case [3]int{1, 1, 0}:
		want = note(102)
	case [3]int{1, 2, 2}:
		want = note(100, 43, 44)
	case [3]int{2, 0, 1}:
		want = note(103, 44)
	case [3]int{0, 0, 0}: // it calls itself, until there are too many frames
		want = api.Outcome{End: api.Deep}
		for k := range 20 {
			want.Calls = append(want.Calls, api.Noted{Deep: k + 1})
		}
	default:
		want = api.Outcome{End: api.Fault}
	}
	comes(t, image(first, second, third), nil, 999, want)
}

// P4.4: who calls, and with how many frames, Calls counted.
func TestNotes(t *testing.T) {
	zero := part(0, 0, op(api.Call, 2), op(api.Ret), op(api.Push, 7), op(api.Gate, 2, 0, 1), op(api.Ret))
	one := part(0, 2, op(api.Get, 0), op(api.Get, 1), op(api.Do, api.Sub), op(api.Ret))
	two := part(0, 1, op(api.Get, 0), op(api.Push, 1), op(api.Gate, 1, 0, 2), op(api.Push, 4), op(api.Gate, 1, 0, 2), op(api.Ret))
	comes(t, image(zero, one, two), nil, 99, api.Outcome{End: api.Done, Value: 2, Calls: []api.Noted{
		{By: 0, Part: 2, Entry: 0, Args: []int{7}, Deep: 2, Done: true, Value: 2},
		{By: 2, Part: 1, Entry: 0, Args: []int{7, 1}, Deep: 3, Done: true, Value: 6},
		{By: 2, Part: 1, Entry: 0, Args: []int{6, 4}, Deep: 3, Done: true, Value: 2},
	}})
}

// P4.4: what is noted of a call does not change with the locals of its frame, or with the words of the one that calls.
func TestNotesKeepTheirWords(t *testing.T) {
	callee := part(0, 2, op(api.Push, 9), op(api.Put, 0), op(api.Push, 9), op(api.Put, 1), op(api.Push, 5), op(api.Ret))
	m := image(part(0, 0, pushes(1, 2), op(api.Gate, 1, 0, 2), pushes(6, 7, 8), op(api.Ret)), callee)
	comes(t, m, nil, 99, api.Outcome{End: api.Done, Value: 8, Calls: []api.Noted{{Part: 1, Args: []int{1, 2}, Deep: 1, Done: true, Value: 5}}})
}

// P4.4: a run into an entry, a Call, and a gate that is none, are not noted.
func TestNotNoted(t *testing.T) {
	ends(t, api.Done, 1, op(api.Call, 2), op(api.Ret), op(api.Push, 1), op(api.Ret))
	ends(t, api.Fault, 0, op(api.Gate, 1))
	ends(t, api.Fault, 0, op(api.Gate, 0, 1))
	ends(t, api.Fault, 0, op(api.Push, 1), op(api.Gate, 0, 0, 1))
	ends(t, api.Fault, 0, op(api.Gate, 0, 0, 1))
}

// rounds: a part that calls the entry 0 of part 1 so many times, each time with how many times are left, adds up what it is told, and does the rest.
func rounds(n int, rest ...any) api.Part {
	return part(0, 0, op(api.Push, n), op(api.Put, 0), op(api.Get, 0), op(api.Jz, 14), op(api.Get, 0), op(api.Gate, 1, 0, 1), op(api.Get, 1), op(api.Do, api.Add), op(api.Put, 1), op(api.Get, 0), op(api.Push, 1), op(api.Do, api.Sub), op(api.Put, 0), op(api.Jump, 2), join(rest...))
}

// P4.4: MaxCalls are noted; what comes behind them is called all the same.
func TestMaxCalls(t *testing.T) {
	callee := part(0, 1, op(api.Get, 0), op(api.Push, 2), op(api.Do, api.Mul), op(api.Ret))
	for _, n := range []int{0, 1, 99, 100, 101, 102, 200} {
		want := api.Outcome{End: api.Done, Value: n * (n + 1)}
		for k := range min(n, 100) {
			want.Calls = append(want.Calls, api.Noted{Part: 1, Args: []int{n - k}, Deep: 1, Done: true, Value: 2 * (n - k)})
		}
		comes(t, image(rounds(n, op(api.Get, 1), op(api.Ret)), callee), nil, 99999, want)
	}
}

// P4.5: a call that was noted is done even when MaxCalls were noted behind it; those that were not noted are done nowhere.
func TestMaxCallsWithinACall(t *testing.T) {
	for _, n := range []int{98, 99, 100, 150} {
		outer := rounds(n, op(api.Push, 777), op(api.Ret))
		m := image(part(0, 0, op(api.Gate, 2), op(api.Ret)), part(0, 1, op(api.Get, 0), op(api.Ret)), outer)
		want := api.Outcome{End: api.Done, Value: 777, Calls: []api.Noted{{Part: 2, Deep: 1, Done: true, Value: 777}}}
		for k := range min(n, 99) {
			want.Calls = append(want.Calls, api.Noted{By: 2, Part: 1, Args: []int{n - k}, Deep: 2, Done: true, Value: n - k})
		}
		comes(t, m, nil, 99999, want)
	}
}

// P4.4: with MaxCalls noted, a gate is refused, and frames are counted, as ever.
func TestGatesBehindMaxCalls(t *testing.T) {
	callee := part(0, 1, op(api.Get, 0), op(api.Ret))
	callee.Entries = append(callee.Entries, api.Entry{})
	for _, c := range []struct {
		end  int
		rest []api.Instr
	}{
		{api.Fault, join(op(api.Gate, 1, 0, 0))},
		{api.Fault, join(op(api.Gate, 1, 2, 0))},
		{api.Fault, join(op(api.Gate, 3))},
		{api.Deep, join(op(api.Gate, 0, 1))},
	} {
		first := rounds(100, c.rest)
		first.Entries = append(first.Entries, api.Entry{At: 14})
		got := ran(t, image(first, callee), nil, 0, 0, nil, 99999)
		if got.End != c.end || len(got.Calls) != 100 || !got.Calls[99].Done {
			t.Errorf("%v: %d, %d noted", c.rest, got.End, len(got.Calls))
		}
	}
}

// P4.4: the gate that finds MaxDeep frames is noted, and not done.
func TestGateDeep(t *testing.T) {
	want := api.Outcome{End: api.Deep}
	for k := range 20 {
		want.Calls = append(want.Calls, api.Noted{By: k % 2, Part: 1 - k%2, Args: []int{k % 2}, Deep: k + 1})
	}
	m := image(part(0, 1, op(api.Push, 0), op(api.Gate, 1, 0, 1), op(api.Ret)), part(0, 1, op(api.Push, 1), op(api.Gate, 0, 0, 1), op(api.Ret)))
	if got := ran(t, m, nil, 0, 0, []int{5}, 999); !sameOutcome(got, want) {
		t.Errorf("%v, want %v", got, want)
	}
}

// P4.5: the word is put behind those of the frame that called, which goes on behind the call.
func TestRet(t *testing.T) {
	ends(t, api.Done, 65535, op(api.Push, 65535), op(api.Ret), op(api.Trap))
	ends(t, api.Done, 0, op(api.Push, 3), op(api.Push, 0), op(api.Ret))
	ends(t, api.Done, 6, op(api.Push, 10), op(api.Call, 4), op(api.Do, api.Sub), op(api.Ret), op(api.Push, 4), op(api.Ret))
	ends(t, api.Fault, 0, op(api.Call, 2), op(api.Ret), op(api.Ret))
	m := image(part(0, 0, op(api.Push, 10), op(api.Gate, 1), op(api.Do, api.Sub), op(api.Ret)), part(0, 0, pushes(8, 4), op(api.Ret)))
	comes(t, m, nil, 99, api.Outcome{End: api.Done, Value: 6, Calls: []api.Noted{{Part: 1, Deep: 1, Done: true, Value: 4}}})
	m.Parts[1].Code = join(op(api.Ret))
	comes(t, m, nil, 99, api.Outcome{End: api.Fault, Calls: []api.Noted{{Part: 1, Deep: 1}}})
}

// P4.5: a frame that came by a Call, within one that came by a gate, leaves the note as it is.
func TestRetOfACallWithinAGate(t *testing.T) {
	m := image(part(0, 0, op(api.Gate, 1), op(api.Ret)), part(0, 0, op(api.Call, 2), op(api.Trap), op(api.Push, 4), op(api.Ret)))
	comes(t, m, nil, 99, api.Outcome{End: api.Edge, Calls: []api.Noted{{Part: 1, Deep: 1}}})
	m.Parts[1].Code[1] = op(api.Jump, 4)
	m.Parts[1].Code = append(m.Parts[1].Code, op(api.Push, 1), op(api.Do, api.Add), op(api.Ret))
	comes(t, m, nil, 99, api.Outcome{End: api.Done, Value: 5, Calls: []api.Noted{{Part: 1, Deep: 1, Done: true, Value: 5}}})
}

// P4.5: the word finds no room, when the frame that called has MaxStack words; a call that was noted is done by then.
func TestRetWithoutRoom(t *testing.T) {
	for n := 37; n <= 40; n++ {
		for takes := range 3 {
			end, value := api.Done, 6
			if n-takes == 40 {
				end, value = api.Fault, 0
			}
			fill := times(n, op(api.Push, 1))
			ends(t, end, value, fill, op(api.Call, n+2, takes), op(api.Ret), op(api.Push, 6), op(api.Ret))
			m := image(part(0, 0, fill, op(api.Gate, 1, 0, takes), op(api.Ret)), part(0, takes, op(api.Push, 6), op(api.Ret)))
			comes(t, m, nil, 99, api.Outcome{End: end, Value: value, Calls: []api.Noted{{Part: 1, Args: []int{1, 1}[:takes], Deep: 1, Done: true, Value: 6}}})
		}
	}
}

// The document's example: a part that anybody wrote calls an entry twice, and faults when it loads the word itself.
func TestExampleOfTheWhole(t *testing.T) {
	one := part(1, 1, op(api.Push), op(api.Push), op(api.Load), op(api.Get), op(api.Do, api.Add), op(api.Store), op(api.Push), op(api.Load), op(api.Ret))
	behind := part(0, 0, op(api.Push, 7), op(api.Gate, 0, 0, 1), op(api.Tell), op(api.Push, 7), op(api.Gate, 0, 0, 1), op(api.Tell), op(api.Push), op(api.Load), op(api.Ret))
	got := ran(t, image(one, behind), []int{0}, 1, 0, nil, 99)
	want := api.Outcome{End: api.Fault, Told: []int{7, 14}, Data: []int{14}, Calls: []api.Noted{
		{By: 1, Args: []int{7}, Deep: 1, Done: true, Value: 7}, {By: 1, Args: []int{7}, Deep: 1, Done: true, Value: 14},
	}}
	if !sameOutcome(got, want) {
		t.Errorf("%v, want %v", got, want)
	}
}
