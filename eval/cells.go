package eval

import (
	"barbican/api"
	"barbican/word"
)

func freshOf(u api.Unit) api.Cells {
	c := api.Cells{Vars: make([]int, len(u.Vars)), Arrays: make([][]int, len(u.Arrays))}
	for i, a := range u.Arrays {
		c.Arrays[i] = make([]int, a.Size)
	}
	return c
}

func copyOf(c api.Cells) api.Cells {
	d := api.Cells{Vars: copied(c.Vars), Arrays: make([][]int, len(c.Arrays))}
	for i, l := range c.Arrays {
		d.Arrays[i] = copied(l)
	}
	return d
}

func copied(l []int) []int {
	c := make([]int, len(l))
	copy(c, l)
	return c
}

// areOf a unit: has it such cells?
func areOf(u api.Unit, c api.Cells) bool {
	if len(c.Vars) != len(u.Vars) || len(c.Arrays) != len(u.Arrays) || !words(c.Vars) {
		return false
	}
	for i, a := range u.Arrays {
		if len(c.Arrays[i]) != a.Size || !words(c.Arrays[i]) {
			return false
		}
	}
	return true
}

// words: is none of them anything else?
func words(l []int) bool {
	for _, n := range l {
		if !word.Is(n) {
			return false
		}
	}
	return true
}
