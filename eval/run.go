package eval

import (
	"barbican/api"
	"barbican/names"
)

// run of a function, and of all that it calls: what they share.
type run struct {
	units []api.Unit
	cells []api.Cells
	told  []int
	fuel  int
}

// ending: an End that is not Done. It is thrown, as a run may end however far within one another statements, expressions and calls stand.
type ending int

// caught: how a run ends, Done with what it answers, or by an ending that was thrown.
func caught(do func() int) (end, value int) {
	defer func() {
		if x := recover(); x != nil {
			end = int(x.(ending))
		}
	}()
	value = do()
	return api.Done, value
}

// burn a unit of fuel.
func (r *run) burn() {
	if r.fuel == 0 {
		panic(ending(api.Spent))
	}
	r.fuel--
}

func (r *run) tell(n int) {
	if len(r.told) == api.MaxOuts {
		panic(ending(api.Long))
	}
	r.told = append(r.told, n)
}

// call a function of the unit at a place, with so many frames ahead. The args are its own from then on.
func (r *run) call(unit int, fun string, args []int, ahead int) int {
	if ahead == api.MaxDeep {
		panic(ending(api.Deep))
	}
	u := r.units[unit]
	f := frame{run: r, place: unit, unit: u, fun: u.Funcs[names.Func(u, fun)], params: args, ahead: ahead}
	value, _ := f.stmts(f.fun.Body) // 0, if none returns
	return value
}
