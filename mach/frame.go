package mach

import "barbican/api"

// frame of a part. No instruction names one: code reaches the words of its last frame, and nothing of the others.
type frame struct {
	part   int
	at     int
	locals [api.Locals]int
	words  []int
	note   int // the noted call that it came by, or unnoted
}

// take the last words away. They hold until the frame is put others.
func (f *frame) take(n int) ([]int, bool) {
	left := len(f.words) - n
	if left < 0 {
		return nil, false
	}
	taken := f.words[left:]
	f.words = f.words[:left]
	return taken, true
}

// put words behind the others.
func (f *frame) put(l ...int) int {
	if len(f.words)+len(l) > api.MaxStack {
		return api.Fault
	}
	f.words = append(f.words, l...)
	return goesOn
}

// takes: how many words an instruction takes. None takes words only sometimes, so that too few of them are found ahead of all that it does.
func takes(i api.Instr) int {
	switch i.Op {
	case api.Drop, api.Dup, api.Put, api.Load, api.Jz, api.Ret, api.Tell:
		return 1
	case api.Store, api.Do:
		return 2
	case api.Call:
		return i.B
	case api.Gate:
		return i.C
	default:
		return 0
	}
}
