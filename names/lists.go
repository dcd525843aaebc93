package names

import "barbican/api"

// list of names, told place by place by a closure, so that names are found in one way, whatever they are names of.
type list struct {
	count int
	at    func(place int) string
}

// place of the first one that is this name; -1: there is none.
func (l list) place(name string) int {
	for i := range l.count {
		if l.at(i) == name {
			return i
		}
	}
	return -1
}

func (l list) has(name string) bool { return l.place(name) >= 0 }

// twice: does a name stand behind the first place that has it?
func (l list) twice() bool {
	for i := range l.count {
		if l.place(l.at(i)) < i {
			return true
		}
	}
	return false
}

func unitsOf(p []api.Unit) list {
	return list{len(p), func(i int) string { return p[i].Name }}
}

func funcsOf(u api.Unit) list {
	return list{len(u.Funcs), func(i int) string { return u.Funcs[i].Name }}
}

func varsOf(u api.Unit) list {
	return list{len(u.Vars), func(i int) string { return u.Vars[i] }}
}

func arraysOf(u api.Unit) list {
	return list{len(u.Arrays), func(i int) string { return u.Arrays[i].Name }}
}

func paramsOf(f api.Func) list {
	return list{len(f.Params), func(i int) string { return f.Params[i] }}
}

// both lists, one behind the other.
func both(a, b list) list {
	return list{a.count + b.count, func(i int) string {
		if i < a.count {
			return a.at(i)
		}
		return b.at(i - a.count)
	}}
}
