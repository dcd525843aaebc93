package mach

import (
	"slices"
	"testing"

	"barbican/api"
)

// P4.3: Push, Drop, Dup, Get and Put.
func TestWordsOfAFrame(t *testing.T) {
	for _, n := range []int{0, 1, 255, 256, 65534, 65535} {
		ends(t, api.Done, n, op(api.Push, n), op(api.Ret))
		ends(t, api.Done, n, op(api.Push, n), op(api.Push, 7), op(api.Drop), op(api.Ret))
		ends(t, api.Done, n, op(api.Push, n), op(api.Dup), op(api.Drop), op(api.Ret))
		ends(t, api.Done, 2*n&65535, op(api.Push, n), op(api.Dup), op(api.Do, api.Add), op(api.Ret))
		for k := range api.Locals {
			ends(t, api.Done, n, op(api.Push, n), op(api.Put, k), op(api.Get, k), op(api.Ret))
			ends(t, api.Done, 0, op(api.Push, n), op(api.Put, k), op(api.Get, (k+1)%8), op(api.Ret))
		}
	}
	ends(t, api.Done, 4, pushes(4, 5), op(api.Put, 0), op(api.Ret))
	ends(t, api.Done, 5, pushes(5, 4), op(api.Put, 0), op(api.Put, 0), op(api.Get), op(api.Ret))
	comes(t, image(part(0, 0, op(api.Push, 3), op(api.Put, 1), op(api.Get, 1), op(api.Get, 1), op(api.Tell), op(api.Tell), op(api.Get, 1), op(api.Ret))), nil, 20, api.Outcome{End: api.Done, Value: 3, Told: []int{3, 3}})
}

// P4.3: the word ahead of the last one is the first of an operation.
func TestOperations(t *testing.T) {
	for _, c := range []struct{ op, want int }{
		{api.Add, 39}, {api.Sub, 33}, {api.Mul, 108}, {api.And, 0}, {api.Or, 39},
		{api.Xor, 39}, {api.Lt, 0}, {api.Eq, 0}, {api.Shl, 288}, {api.Shr, 4},
	} {
		ends(t, api.Done, c.want, pushes(9, 36, 3), op(api.Do, c.op), op(api.Ret))
	}
	ends(t, api.Done, 65533, pushes(3, 6), op(api.Do, api.Sub), op(api.Ret))
	ends(t, api.Done, 1, pushes(3, 6), op(api.Do, api.Lt), op(api.Ret))
	ends(t, api.Done, 1, pushes(65535, 65535), op(api.Do, api.Mul), op(api.Ret))
	ends(t, api.Done, 9, pushes(9, 36, 3), op(api.Do, api.Add), op(api.Drop), op(api.Ret))
}

// P4.3: words are told in their order, MaxOuts of them; that is asked behind the number of words of the frame.
func TestTell(t *testing.T) {
	comes(t, image(part(0, 0, pushes(1, 65535, 0), times(3, op(api.Tell)), op(api.Push, 2), op(api.Ret))), nil, 20, api.Outcome{End: api.Done, Value: 2, Told: []int{0, 65535, 1}})
	told := slices.Repeat([]int{8}, 500)
	some := func(n int, rest ...any) api.Image {
		head := join(op(api.Push, n), op(api.Put, 0), op(api.Get, 0), op(api.Jz, 11), op(api.Push, 8), op(api.Tell), op(api.Get, 0), op(api.Push, 1), op(api.Do, api.Sub), op(api.Put, 0), op(api.Jump, 2))
		return image(part(0, 0, head, join(rest...)))
	}
	comes(t, some(500, op(api.Push, 1), op(api.Ret)), nil, 9999, api.Outcome{End: api.Done, Value: 1, Told: told})
	comes(t, some(499, op(api.Push, 8), op(api.Tell), op(api.Push, 1), op(api.Ret)), nil, 9999, api.Outcome{End: api.Done, Value: 1, Told: told})
	comes(t, some(500, op(api.Push, 8), op(api.Tell), op(api.Push, 1), op(api.Ret)), nil, 9999, api.Outcome{End: api.Long, Told: told})
	comes(t, some(501, op(api.Push, 1), op(api.Ret)), nil, 9999, api.Outcome{End: api.Long, Told: told})
	comes(t, some(500, op(api.Tell)), nil, 9999, api.Outcome{End: api.Fault, Told: told})
	comes(t, some(499, op(api.Tell)), nil, 9999, api.Outcome{End: api.Fault, Told: told[:499]})
}

// P4.3: all parts tell into one list, with one bound.
func TestTellOfAllParts(t *testing.T) {
	m := image(part(0, 0, op(api.Push, 1), op(api.Tell), op(api.Gate, 1), op(api.Drop), op(api.Jump)), part(0, 0, op(api.Push, 2), op(api.Tell), op(api.Push, 3), op(api.Ret)))
	got := ran(t, m, nil, 0, 0, nil, 99999)
	if got.End != api.Long || !slices.Equal(got.Told, slices.Repeat([]int{1, 2}, 250)) {
		t.Errorf("two parts that tell: %v", got)
	}
}

// P4.3: every place by a frame of every part, by its entry and by a gate: its own words, and no others.
func TestLoadAndStore(t *testing.T) {
	for p := range 4 {
		for at := range 12 {
			own := []bool{at < 2, false, 2 <= at && at < 5, 5 <= at && at < 6}[p]
			touched(t, p, at, own)
		}
		for _, at := range []int{249, 250, 251, 256, 258, 32768, 65534, 65535} {
			touched(t, p, at, false)
		}
	}
}

func touched(t *testing.T, p, at int, own bool) {
	t.Helper()
	data := []int{10, 65535, 12, 0, 14, 15}
	loads := join(op(api.Push, at), op(api.Load), op(api.Ret))
	stores := join(op(api.Push, at), op(api.Push, 77), op(api.Store), op(api.Push, 1), op(api.Ret))
	loaded, stored := api.Outcome{End: api.Fault, Data: data}, api.Outcome{End: api.Fault, Data: data}
	if own {
		loaded.End, loaded.Value = api.Done, data[at]
		stored.End, stored.Value, stored.Data = api.Done, 1, slices.Clone(data)
		stored.Data[at] = 77
	}
	for _, c := range []struct {
		code []api.Instr
		want api.Outcome
	}{{loads, loaded}, {stores, stored}} {
		m := image(part(2, 0), part(0, 0), part(3, 0), part(1, 0), part(0, 0, op(api.Gate, p), op(api.Ret)))
		for k := range 4 {
			m.Parts[k].Code = c.code
		}
		if got := ran(t, m, data, p, 0, nil, 20); !sameOutcome(got, c.want) {
			t.Errorf("the place %d by the part %d: %v, want %v", at, p, got, c.want)
		}
		c.want.Calls = []api.Noted{{By: 4, Part: p, Deep: 1, Done: own, Value: c.want.Value}}
		if got := ran(t, m, data, 4, 0, nil, 20); !sameOutcome(got, c.want) {
			t.Errorf("the place %d by the part %d through a gate: %v, want %v", at, p, got, c.want)
		}
	}
}

// P4.3: what is stored is loaded then, by later frames too; the words behind a gate are those of its part, and behind the return from it those of the caller.
func TestWordsStay(t *testing.T) {
	count := part(1, 0, op(api.Push, 1), op(api.Dup), op(api.Load), op(api.Push, 3), op(api.Do, api.Add), op(api.Store), op(api.Push, 1), op(api.Load), op(api.Ret))
	m := image(part(1, 0, op(api.Push), op(api.Gate, 1), op(api.Store), op(api.Push), op(api.Load), op(api.Gate, 1), op(api.Do, api.Sub), op(api.Ret)), count)
	want := api.Outcome{End: api.Done, Value: 65533, Data: []int{23, 26}, Calls: []api.Noted{{Part: 1, Deep: 1, Done: true, Value: 23}, {Part: 1, Deep: 1, Done: true, Value: 26}}}
	comes(t, m, []int{9, 20}, 99, want)
	m.Parts[0].Code[3].A = 1
	comes(t, m, []int{9, 20}, 99, api.Outcome{End: api.Fault, Data: []int{23, 23}, Calls: want.Calls[:1]})
}

// P4.3: a frame that came by a Call has the words of its part, too.
func TestWordsOfCalledFrames(t *testing.T) {
	m := image(part(1, 0, op(api.Ret)), part(1, 0, op(api.Call, 2), op(api.Ret), op(api.Push, 1), op(api.Load), op(api.Ret)))
	if got := ran(t, m, []int{4, 5}, 1, 0, nil, 20); !sameOutcome(got, api.Outcome{End: api.Done, Value: 5, Data: []int{4, 5}}) {
		t.Error(got)
	}
	m.Parts[1].Code[2].A = 0
	if got := ran(t, m, []int{4, 5}, 1, 0, nil, 20); !sameOutcome(got, api.Outcome{End: api.Fault, Data: []int{4, 5}}) {
		t.Error(got)
	}
}

// P4.3: the last word is stored at the one ahead of it.
func TestStoreTakesThePlaceFirst(t *testing.T) {
	m := image(part(3, 0, pushes(9, 1, 2), op(api.Store), op(api.Ret)))
	comes(t, m, []int{0, 0, 0}, 9, api.Outcome{End: api.Done, Value: 9, Data: []int{0, 2, 0}})
}

// P4.3: Jump and Jz, ahead and back.
func TestJumps(t *testing.T) {
	ends(t, api.Done, 2, op(api.Jump, 2), op(api.Trap), op(api.Push, 2), op(api.Ret))
	ends(t, api.Done, 3, op(api.Jump, 3), op(api.Push, 3), op(api.Ret), op(api.Jump, 1))
	for _, n := range []int{0, 1, 2, 256, 32768, 65535} {
		want := 5
		if n == 0 {
			want = 6
		}
		ends(t, api.Done, want, pushes(5, n), op(api.Jz, 4), op(api.Ret), op(api.Push, 6), op(api.Ret))
	}
	sum := join(op(api.Push, 10), op(api.Put, 0), op(api.Get, 0), op(api.Jz, 13), op(api.Get, 1), op(api.Get, 0), op(api.Do, api.Add), op(api.Put, 1), op(api.Get, 0), op(api.Push, 1), op(api.Do, api.Sub), op(api.Put, 0), op(api.Jump, 2), op(api.Get, 1), op(api.Ret))
	ends(t, api.Done, 55, sum)
}

// P4.3: a trap of any frame ends the run, and no call that it is within is done.
func TestTrap(t *testing.T) {
	ends(t, api.Edge, 0, op(api.Trap), op(api.Push), op(api.Ret))
	ends(t, api.Edge, 0, op(api.Call, 2), op(api.Ret), op(api.Trap))
	m := image(part(0, 0, op(api.Gate, 1), op(api.Ret)), part(0, 0, op(api.Call, 2), op(api.Ret), op(api.Trap)))
	comes(t, m, nil, 9, api.Outcome{End: api.Edge, Calls: []api.Noted{{Part: 1, Deep: 1}}})
}
