package link

import (
	"barbican/api"
	"barbican/gen"
	"barbican/names"
)

// partOf the unit at a place of a program, its words from a place on.
func partOf(p []api.Unit, unit, from int) (api.Part, api.Errno) {
	u := p[unit]
	code, begins, e := gen.Unit(p, unit, from)
	if e != api.OK {
		return api.Part{}, e
	}
	return api.Part{Code: code, Entries: entriesOf(u, begins), From: from, To: from + names.Words(u)}, api.OK
}

// entriesOf a unit: closed functions have none, so nothing outside of the part's code comes to them.
func entriesOf(u api.Unit, begins []int) []api.Entry {
	var l []api.Entry
	for i, f := range u.Funcs {
		if f.Open {
			l = append(l, api.Entry{At: begins[i], Params: len(f.Params)})
		}
	}
	return l
}

// end of the words of parts: where those of one more begin.
func end(l []api.Part) int {
	if len(l) == 0 {
		return 0
	}
	return l[len(l)-1].To
}

func copyOf(p api.Part) api.Part {
	return api.Part{Code: copied(p.Code), Entries: copied(p.Entries), From: p.From, To: p.To}
}

// copied, without spare room.
func copied[T any](l []T) []T {
	c := make([]T, len(l))
	copy(c, l)
	return c
}
