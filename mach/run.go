package mach

import (
	"barbican/api"
	"barbican/word"
)

// look answers a part's word at a place; nil: it is not its own.
type look func(at int) *int

// run is what changes from step to step.
type run struct {
	parts  []api.Part
	looks  []look // one of each part
	frames []frame
	fuel   int
	out    api.Outcome
}

// start copies the words, as the run stores into them.
func start(m api.Image, data []int, fuel int) *run {
	r := &run{parts: m.Parts, fuel: fuel}
	r.out.Data = copied(data)
	for _, p := range m.Parts {
		r.looks = append(r.looks, lookAs(p, r.out.Data))
	}
	return r
}

func copied(l []int) []int {
	c := make([]int, len(l))
	copy(c, l)
	return c
}

// lookAs: Load and Store have no other way to the words, so that both meet the edge of the frame's part.
func lookAs(p api.Part, data []int) look {
	return func(at int) *int {
		if at < p.From || at >= p.To {
			return nil
		}
		return &data[at]
	}
}

// last frame. A pointer to it does not outlive the making of another one.
func (r *run) last() *frame { return &r.frames[len(r.frames)-1] }

// step answers how the run ends by it, or goesOn.
func (r *run) step() int {
	if r.fuel == 0 {
		return api.Spent
	}
	r.fuel--
	f := r.last()
	code := r.parts[f.part].Code
	if f.at >= len(code) {
		return api.Fault
	}
	i := code[f.at]
	f.at++
	w, ok := f.take(takes(i))
	if !ok {
		return api.Fault
	}
	return r.do(f, i, w)
}

// do an instruction of the last frame, with the words that it took.
func (r *run) do(f *frame, i api.Instr, w []int) int {
	switch i.Op {
	case api.Push:
		return f.put(i.A)
	case api.Drop:
		return goesOn
	case api.Dup:
		return f.put(w[0], w[0])
	case api.Get:
		return f.put(f.locals[i.A])
	case api.Put:
		f.locals[i.A] = w[0]
		return goesOn
	case api.Load:
		return r.load(f, w[0])
	case api.Store:
		return r.store(f, w[0], w[1])
	case api.Do:
		n, _ := word.Do(i.A, w[0], w[1]) // the image was checked, and a frame has words alone: nothing is refused
		return f.put(n)
	case api.Jump:
		f.at = i.A
		return goesOn
	case api.Jz:
		if w[0] == 0 {
			f.at = i.A
		}
		return goesOn
	case api.Call:
		return r.enter(f.part, i.A, w, unnoted)
	case api.Gate:
		return r.gate(f.part, i, w)
	case api.Ret:
		return r.ret(w[0])
	case api.Tell:
		return r.tell(w[0])
	default: // the image was checked: this is Trap.
		return api.Edge
	}
}

func (r *run) load(f *frame, at int) int {
	p := r.looks[f.part](at)
	if p == nil {
		return api.Fault
	}
	return f.put(*p)
}

func (r *run) store(f *frame, at, n int) int {
	p := r.looks[f.part](at)
	if p == nil {
		return api.Fault
	}
	*p = n
	return goesOn
}

func (r *run) tell(n int) int {
	if len(r.out.Told) == api.MaxOuts {
		return api.Long
	}
	r.out.Told = append(r.out.Told, n)
	return goesOn
}

// enter makes a frame; note is the noted call that it comes by, or unnoted.
func (r *run) enter(part, at int, args []int, note int) int {
	if len(r.frames) == api.MaxDeep {
		return api.Deep
	}
	f := frame{part: part, at: at, note: note}
	copy(f.locals[:], args)
	r.frames = append(r.frames, f)
	return goesOn
}

// gate: the call is noted ahead of the frame, so even where there are too many frames for it.
func (r *run) gate(by int, i api.Instr, args []int) int {
	y, ok := entryOf(r.parts, i.A, i.B)
	if !ok || y.Params != len(args) {
		return api.Fault
	}
	return r.enter(i.A, y.At, args, r.noted(by, i, args))
}

// noted notes a call, while there is room, and answers which one it is.
func (r *run) noted(by int, i api.Instr, args []int) int {
	if len(r.out.Calls) == api.MaxCalls {
		return unnoted
	}
	n := api.Noted{By: by, Part: i.A, Entry: i.B, Args: copied(args), Deep: len(r.frames)}
	r.out.Calls = append(r.out.Calls, n)
	return len(r.out.Calls) - 1
}

// ret: the call is done ahead of the word's being put, so even where there are too many words for it.
func (r *run) ret(n int) int {
	if note := r.last().note; note != unnoted {
		c := &r.out.Calls[note]
		c.Done, c.Value = true, n
	}
	r.frames = r.frames[:len(r.frames)-1]
	if len(r.frames) == 0 {
		r.out.Value = n
		return api.Done
	}
	return r.last().put(n)
}
