package gen

import "barbican/api"

// writer of code. Between statements a frame has no words, and jumps go from there to there, or to the trap: so what a frame has at a place is told by what is written ahead of it.
type writer struct {
	code  []api.Instr
	words int   // of a frame, behind what is written so far
	most  int   // words of a frame, anywhere
	edges []int // places of what jumps to the trap
}

// put an instruction that has no B and C, and answer its place.
func (w *writer) put(op, a int) int { return w.write(api.Instr{Op: op, A: a}) }

func (w *writer) write(i api.Instr) int {
	w.code = append(w.code, i)
	w.words += grows(i)
	w.most = max(w.most, w.words)
	return len(w.code) - 1
}

// grows: how many words more a frame has behind an instruction.
func grows(i api.Instr) int {
	switch i.Op {
	case api.Push, api.Dup, api.Get:
		return 1
	case api.Load, api.Jump, api.Trap:
		return 0
	case api.Store:
		return -2
	case api.Call:
		return 1 - i.B
	case api.Gate:
		return 1 - i.C
	default: // Drop, Put, Do, Jz, Ret, Tell
		return -1
	}
}

// land a jump here.
func (w *writer) land(jump int) { w.code[jump].A = len(w.code) }

// trap, one for all edges, if there are any.
func (w *writer) trap() {
	if len(w.edges) == 0 {
		return
	}
	for _, jump := range w.edges {
		w.land(jump)
	}
	w.put(api.Trap, 0)
}

// full: nothing more needs to be written, as it is too much already.
func (w *writer) full() bool { return len(w.code) > api.MaxCode }

// tooMuch for a part, or for a frame. By the limits of today no expression needs as many words as a frame has; they might change one by one.
func (w *writer) tooMuch() bool { return w.full() || w.most > api.MaxStack }

// pointCalls to where functions begin: until all are written they name a function by its place in the unit.
func (w *writer) pointCalls(begins []int) {
	for i, x := range w.code {
		if x.Op == api.Call {
			w.code[i].A = begins[x.A]
		}
	}
}
