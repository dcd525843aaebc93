package link

import (
	"testing"

	"barbican/api"
	"barbican/code"
	"barbican/eval"
	"barbican/mach"
)

// hostile code of a part behind the drawn program, with words from a place on: of anything, but what it asks of others is mostly an entry that there is. If it is silent it tells nothing, so that all that is told is told by the program.
func (d *drawn) hostile(from, words int, silent bool) []api.Instr {
	var l []api.Instr
	for range 3 + d.n(25) {
		switch k := d.n(20); {
		case k < 8:
			u := d.n(len(d.p))
			fs := open(d.p[u])
			y := d.n(len(fs))
			l = append(l, ask(u, y, d.args(len(fs[y].Params))...)...)
			l = append(l, api.Instr{Op: api.Put, A: d.n(3)})
		case k < 11 && words > 0:
			l = append(l, pushes(from+d.n(words), d.word())...)
			l = append(l, api.Instr{Op: api.Store})
		case k < 12: // itself, so that there are more frames
			l = append(l, api.Instr{Op: api.Call, A: d.n(len(l) + 2)}, api.Instr{Op: api.Drop})
		case k < 13:
			l = append(l, ask(len(d.p), 0)...)
		case k < 16:
			l = append(l, api.Instr{Op: api.Get, A: d.n(3)}, api.Instr{Op: api.Jz, A: d.n(40)})
		case k < 19:
			l = append(l, pushes(d.word())...)
		default:
			l = append(l, d.instr(silent))
		}
	}
	return append(l, pushes(d.word())[0], api.Instr{Op: api.Ret})
}

// instr of any kind, with any numbers that may be.
func (d *drawn) instr(silent bool) api.Instr {
	for {
		i := api.Instr{Op: 1 + d.n(15), A: d.n(50), B: d.n(8), C: d.n(5)}
		if silent && i.Op == api.Tell {
			continue
		}
		for _, i := range []api.Instr{i, {Op: i.Op, A: i.A, B: i.C}, {Op: i.Op, A: i.A}, {Op: i.Op, A: i.C}, {Op: i.Op}} {
			if code.Check(i) == api.OK {
				return i
			}
		}
	}
}

// replayed: what is known of the program by the calls that came to it from outside.
type replayed struct {
	cells []api.Cells
	told  []int
	whole bool // nothing is left open
}

// replay the calls that another part made, as calls of the program: each does just what it says, with the frames that were ahead. It answers what the program is like then.
func replay(t *testing.T, p []api.Unit, l []api.Cells, o api.Outcome) replayed {
	t.Helper()
	r := replayed{cells: l, whole: len(o.Calls) < api.MaxCalls}
	for _, c := range o.Calls {
		if c.By < len(p) || c.Part >= len(p) {
			continue
		}
		if c.Deep == api.MaxDeep {
			if c.Done || o.End != api.Deep {
				t.Fatalf("%v with %d frames; the run ended with %d", c, c.Deep, o.End)
			}
			continue
		}
		f := open(p[c.Part])[c.Entry]
		want, next, e := eval.Call(p, r.cells, p[c.Part].Name, f.Name, c.Args, c.Deep, api.MaxFuel)
		if e != api.OK {
			t.Fatalf("%v is no call: %d", c, int(e))
		}
		if !c.Done && (o.End == api.Spent || o.End == api.Long) {
			r.whole = false
			return r
		}
		if c.Done != (want.End == api.Done) || c.Value != want.Value || !c.Done && o.End != want.End {
			t.Fatalf("%v: the program says %v; the run ended with %d", c, want, o.End)
		}
		r.cells, r.told = next, append(r.told, want.Told...)
	}
	return r
}

// What comes of it: whatever code a part behind a program has, the program's functions do just what they say when it calls them, and nobody else touches what is theirs.
func TestDrawnHostileParts(t *testing.T) {
	d := drawn{die: new(die)}
	met, calls, whole := map[int]int{}, map[bool]int{}, 0
	for range 6000 {
		p := d.small(1+d.n(4), 60)
		silent, own := d.n(4) > 0, d.n(5)
		l := d.cells(t)
		m, data := linked(t, p), words(t, p, l)
		bad := d.hostile(len(data), own, silent)
		x, at := behind(t, m, bad, []api.Entry{{}}, own)
		o, e := mach.Run(x, append(data, d.args(own)...), at, 0, nil, api.MaxFuel/10)
		if e != api.OK {
			t.Fatalf("Run of %v is refused with %d", x, int(e))
		}
		met[o.End]++
		for _, c := range o.Calls {
			calls[c.Done]++
		}
		r := replay(t, p, l, o)
		if !r.whole {
			continue
		}
		whole++
		if got, want := told(o.Data[:len(data)]), told(words(t, p, r.cells)); got != want {
			t.Fatalf("%v behind %v: the words are %s, want %s", bad, p, got, want)
		}
		if silent && told(o.Told) != told(r.told) {
			t.Fatalf("%v behind %v: %v is told, want %v", bad, p, o.Told, r.told)
		}
	}
	for end := api.Done; end <= api.Long; end++ {
		if met[end] < 20 {
			t.Errorf("the end %d was met %d times", end, met[end])
		}
	}
	if calls[true] < 5000 || calls[false] < 500 || whole < 4000 {
		t.Errorf("%v calls; %d runs were asked whole", calls, whole)
	}
}
