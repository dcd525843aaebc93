package mach

import (
	"slices"
	"testing"

	"barbican/api"
	"barbican/mem"
	"barbican/word"
)

// model does what a run does another way than the program: a frame is a call of Go's own, its words are a fixed room with a count, and an end unwinds them all.
type model struct {
	m    api.Image
	fuel int
	out  api.Outcome
}

type ended int

func (d *model) run(part, entry int, args []int) (o api.Outcome) {
	defer func() {
		if x := recover(); x != nil {
			d.out.End = int(x.(ended))
			o = d.out
		}
	}()
	d.out.Value = d.frame(part, d.m.Parts[part].Entries[entry].At, args, 1)
	d.out.End = api.Done
	return d.out
}

func (d *model) frame(part, at int, args []int, deep int) int {
	var local [8]int
	var room [40]int
	count := 0
	for k, n := range args {
		local[k] = n
	}
	pop := func() int {
		if count == 0 {
			panic(ended(api.Fault))
		}
		count--
		return room[count]
	}
	push := func(n int) {
		if count == 40 {
			panic(ended(api.Fault))
		}
		room[count] = n
		count++
	}
	some := func(n int) []int {
		l := make([]int, n)
		for k := range l {
			l[n-1-k] = pop()
		}
		return l
	}
	for {
		if d.fuel == 0 {
			panic(ended(api.Spent))
		}
		d.fuel--
		if at >= len(d.m.Parts[part].Code) {
			panic(ended(api.Fault))
		}
		i := d.m.Parts[part].Code[at]
		at++
		switch i.Op {
		case api.Push:
			push(i.A)
		case api.Drop:
			pop()
		case api.Dup:
			n := pop()
			push(n)
			push(n)
		case api.Get:
			push(local[i.A])
		case api.Put:
			local[i.A] = pop()
		case api.Load:
			n, e := mem.Load(d.m, d.out.Data, part, pop())
			if e != api.OK {
				panic(ended(api.Fault))
			}
			push(n)
		case api.Store:
			n := pop()
			l, e := mem.Store(d.m, d.out.Data, part, pop(), n)
			if e != api.OK {
				panic(ended(api.Fault))
			}
			d.out.Data = l
		case api.Do:
			b := pop()
			n, _ := word.Do(i.A, pop(), b)
			push(n)
		case api.Jump:
			at = i.A
		case api.Jz:
			if pop() == 0 {
				at = i.A
			}
		case api.Call:
			l := some(i.B)
			d.bound(deep)
			push(d.frame(part, i.A, l, deep+1))
		case api.Gate:
			push(d.gate(part, i, some(i.C), deep))
		case api.Ret:
			return pop()
		case api.Tell:
			n := pop()
			if len(d.out.Told) == 500 {
				panic(ended(api.Long))
			}
			d.out.Told = append(d.out.Told, n)
		case api.Trap:
			panic(ended(api.Edge))
		}
	}
}

func (d *model) bound(deep int) {
	if deep == 20 {
		panic(ended(api.Deep))
	}
}

func (d *model) gate(by int, i api.Instr, args []int, deep int) int {
	if i.A >= len(d.m.Parts) || i.B >= len(d.m.Parts[i.A].Entries) || d.m.Parts[i.A].Entries[i.B].Params != i.C {
		panic(ended(api.Fault))
	}
	which := len(d.out.Calls)
	if which < 100 {
		d.out.Calls = append(d.out.Calls, api.Noted{By: by, Part: i.A, Entry: i.B, Args: args, Deep: deep})
	}
	d.bound(deep)
	n := d.frame(i.A, d.m.Parts[i.A].Entries[i.B].At, args, deep+1)
	if which < 100 {
		d.out.Calls[which].Done, d.out.Calls[which].Value = true, n
	}
	return n
}

// die: numbers that look drawn, the same each time.
type die uint64

func (d *die) n(most int) int {
	*d = *d*2862933555777941757 + 3037000493
	return int(uint64(*d>>33) % uint64(most))
}

// image of parts, mostly three, of which the entry y, mostly of three, takes y words, mostly.
func (d *die) image() (api.Image, []int) {
	var l []api.Part
	var data []int
	for range d.mostly(3, 5) {
		p := api.Part{To: d.n(6)}
		begin := []int{0}
		for range 1 + d.n(12) {
			p.Code = append(p.Code, d.phrase(len(data), p.To)...)
			begin = append(begin, len(p.Code))
		}
		p.Code = append(p.Code, op(api.Get, 0), op(api.Ret))
		for y := range d.mostly(3, 3) {
			p.Entries = append(p.Entries, api.Entry{At: begin[d.n(len(begin))], Params: d.mostly(y+1, 5) - 1})
		}
		for range p.To {
			data = append(data, d.n(65536))
		}
		l = append(l, p)
	}
	return image(l...), data
}

// mostly the usual number, else one from 1 to most.
func (d *die) mostly(usual, most int) int {
	if d.n(9) > 0 {
		return usual
	}
	return 1 + d.n(most)
}

// phrase: a few instructions of a part with so many words from a place on, of which few end a run, so that runs go on for a while.
func (d *die) phrase(from, words int) []api.Instr {
	at := from
	if words > 0 && d.n(20) > 0 {
		at += d.n(words)
	}
	n, y := d.n(20), d.n(3)
	args := []api.Instr{op(api.Get, d.n(3)), op(api.Push, n)}[:y]
	switch d.n(12) {
	case 0:
		return join(op(api.Push, n), op(api.Tell))
	case 1:
		return join(op(api.Push, n), op(api.Put, d.n(8)))
	case 2:
		return join(op(api.Get, d.n(8)), op(api.Push, n), op(api.Do, 1+d.n(10)), op(api.Put, d.n(3)))
	case 3:
		if words > 0 {
			return join(op(api.Push, at), op(api.Load), op(api.Put, d.n(8)))
		}
		return join(op(api.Get, 0))
	case 4:
		if words > 0 {
			return join(op(api.Push, at), op(api.Get, d.n(8)), op(api.Store))
		}
		return join(op(api.Push, n), op(api.Dup), op(api.Put, 1))
	case 5:
		return join(op(api.Get, d.n(8)), op(api.Jz, d.n(30)))
	case 6, 7:
		return join(args, op(api.Gate, d.n(3), y, y), op(api.Tell))
	case 8:
		return join(args, op(api.Call, d.n(30), y))
	case 9:
		return join(op(api.Jump, d.n(30)))
	case 10:
		return join(op(api.Push, n), op(api.Dup), op(api.Drop))
	default:
		return join(d.instr())
	}
}

// instr of any kind.
func (d *die) instr() api.Instr {
	switch i := 1 + d.n(15); i {
	case api.Push:
		return op(i, d.n(65536))
	case api.Get, api.Put:
		return op(i, d.n(8))
	case api.Do:
		return op(i, 1+d.n(10))
	case api.Jump, api.Jz:
		return op(i, d.n(42))
	case api.Call:
		return op(i, d.n(40), d.n(5))
	case api.Gate:
		return op(i, d.n(5), d.n(4), d.n(5))
	default:
		return op(i)
	}
}

// P4.1 to P4.5: drawn images, run by the program and by the model.
func TestDrawnRuns(t *testing.T) {
	d := die(11)
	met := map[int]int{}
	allNoted := 0
	for range 30000 {
		m, data := d.image()
		p := d.n(len(m.Parts))
		y := d.n(len(m.Parts[p].Entries))
		args := make([]int, m.Parts[p].Entries[y].Params)
		for k := range args {
			args[k] = d.n(65536)
		}
		fuel := []int{30, 300, 6000}[d.n(3)]
		other := model{m: m, fuel: fuel, out: api.Outcome{Data: slices.Clone(data)}}
		want := other.run(p, y, args)
		got := ran(t, m, data, p, y, args, fuel)
		if !sameOutcome(got, want) {
			t.Fatalf("Run(%v, %v, %d, %d, %v, %d) = %v; want %v", m, data, p, y, args, fuel, got, want)
		}
		met[got.End]++
		if len(got.Calls) == 100 {
			allNoted++
		}
	}
	for end := api.Done; end <= api.Long; end++ {
		if met[end] < 20 {
			t.Errorf("the end %d was met %d times", end, met[end])
		}
	}
	if allNoted < 5 {
		t.Errorf("in %d runs as many calls were noted as may be", allNoted)
	}
}

// Numbers of all kinds, in all places: no call panics, and what is refused answers nothing.
func TestRunOfAnything(t *testing.T) {
	d := die(5)
	odd := slices.Concat(nonWords, far, []int{0, 1, 2, 3, 4, 5, 8, 250, 1199, 1200, 65535})
	pick := func() int { return odd[d.n(len(odd))] }
	for range 20000 {
		m, data := d.image()
		args := []int{pick(), pick(), pick()}[:d.n(4)]
		p, y, fuel := d.n(5), d.n(4), 50
		switch d.n(8) {
		case 0:
			p = pick()
		case 1:
			y = pick()
		case 2:
			fuel = pick()
		case 3:
			data = append(data, pick())
		case 4:
			m.Parts[0].Code[0] = api.Instr{Op: pick(), A: pick(), B: pick(), C: pick()}
		case 5:
			m.Parts[0].Entries[0] = api.Entry{At: pick(), Params: pick()}
		case 6:
			m.Parts[len(m.Parts)-1].To = pick()
		}
		if o, e := Run(m, data, p, y, args, fuel); e != api.OK && !sameOutcome(o, api.Outcome{}) {
			t.Fatalf("Run(%v, %v, %d, %d, %v, %d) = %v with the error %d", m, data, p, y, args, fuel, o, int(e))
		}
	}
}
