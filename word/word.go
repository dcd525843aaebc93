// Package word: words of sixteen bits.
package word

import "barbican/api"

// shiftBits keeps the lowest four bits of a word: no shift is by more than fifteen.
const shiftBits = 15

// Is it one?
func Is(n int) bool { return 0 <= n && n <= api.MaxWord }

// Do an operation of two words.
func Do(op, a, b int) (int, api.Errno) {
	if op < api.Add || op > api.Shr {
		return 0, api.ErrKind
	}
	if !Is(a) || !Is(b) {
		return 0, api.ErrRange
	}
	// One cut for all of them: it also makes what Sub leaves below 0 a word, as negative numbers are two's complements.
	return compute(op, a, b) & api.MaxWord, api.OK
}

// compute may leave the sixteen bits, but not an int: the greatest number is MaxWord squared.
func compute(op, a, b int) int {
	switch op {
	case api.Add:
		return a + b
	case api.Sub:
		return a - b
	case api.Mul:
		return a * b
	case api.And:
		return a & b
	case api.Or:
		return a | b
	case api.Xor:
		return a ^ b
	case api.Lt:
		return truth(a < b)
	case api.Eq:
		return truth(a == b)
	case api.Shl:
		return a << (b & shiftBits)
	default: // Do lets nothing through but operations: this is Shr.
		return a >> (b & shiftBits)
	}
}

func truth(is bool) int {
	if is {
		return 1
	}
	return 0
}
