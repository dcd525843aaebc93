package word

import (
	"math"
	"testing"

	"barbican/api"
)

// nonWords lie beyond both edges, near them and far off; the lowest bits of some look like a word.
var nonWords = []int{
	math.MinInt, math.MinInt32, -65537, -65536, -65535, -16, -2, -1,
	65536, 65537, 65551, 131071, 1 << 31, 1 << 32, 1<<32 + 1, math.MaxInt - 1, math.MaxInt,
}

var operations = []int{
	api.Add, api.Sub, api.Mul, api.And, api.Or, api.Xor, api.Lt, api.Eq, api.Shl, api.Shr,
}

// P1.1
func TestIsHoldsForEachWord(t *testing.T) {
	for n := 0; n <= 65535; n++ {
		if !Is(n) {
			t.Fatalf("Is(%d) = false", n)
		}
	}
}

// P1.1
func TestIsHoldsForNothingElse(t *testing.T) {
	for _, n := range nonWords {
		if Is(n) {
			t.Errorf("Is(%d) = true", n)
		}
	}
	for n := 1; n <= 200000; n++ {
		if Is(-n) || Is(65535+n) {
			t.Fatalf("Is holds %d away from the words", n)
		}
	}
}

// P1.2: written out, so that no rule of the tests stands between the document and the numbers.
func TestDoByHand(t *testing.T) {
	for _, c := range []struct{ op, a, b, want int }{
		{api.Add, 0, 0, 0}, {api.Add, 3, 4, 7}, {api.Add, 65535, 1, 0}, {api.Add, 65535, 65535, 65534}, {api.Add, 32768, 32768, 0},
		{api.Sub, 7, 3, 4}, {api.Sub, 3, 7, 65532}, {api.Sub, 0, 1, 65535}, {api.Sub, 0, 65535, 1}, {api.Sub, 9, 9, 0},
		{api.Mul, 6, 7, 42}, {api.Mul, 256, 256, 0}, {api.Mul, 257, 256, 256}, {api.Mul, 65535, 65535, 1}, {api.Mul, 65535, 2, 65534}, {api.Mul, 0, 65535, 0},
		{api.And, 0xff0f, 0x0fff, 0x0f0f}, {api.And, 65535, 65535, 65535}, {api.And, 65535, 0, 0},
		{api.Or, 0xf000, 0x000f, 0xf00f}, {api.Or, 0, 0, 0}, {api.Or, 65535, 1, 65535},
		{api.Xor, 0xff00, 0x0ff0, 0xf0f0}, {api.Xor, 65535, 65535, 0}, {api.Xor, 65535, 0, 65535},
		{api.Lt, 1, 2, 1}, {api.Lt, 2, 1, 0}, {api.Lt, 2, 2, 0}, {api.Lt, 0, 65535, 1}, {api.Lt, 65535, 0, 0}, {api.Lt, 32767, 32768, 1},
		{api.Eq, 2, 2, 1}, {api.Eq, 2, 3, 0}, {api.Eq, 65535, 65535, 1}, {api.Eq, 0, 0, 1}, {api.Eq, 0, 65535, 0},
		{api.Shl, 1, 0, 1}, {api.Shl, 1, 15, 32768}, {api.Shl, 3, 15, 32768}, {api.Shl, 65535, 8, 0xff00}, {api.Shl, 1, 16, 1}, {api.Shl, 1, 17, 2}, {api.Shl, 5, 65535, 32768},
		{api.Shr, 65535, 0, 65535}, {api.Shr, 65535, 15, 1}, {api.Shr, 32768, 1, 16384}, {api.Shr, 0xabcd, 8, 0xab}, {api.Shr, 2, 16, 2}, {api.Shr, 2, 17, 1}, {api.Shr, 65535, 65535, 1},
	} {
		got, e := Do(c.op, c.a, c.b)
		if got != c.want || e != api.OK {
			t.Errorf("Do(%d, %d, %d) = %d, %d; want %d, 0", c.op, c.a, c.b, got, int(e), c.want)
		}
	}
}

// P1.2: every edge of a word against every other one.
func TestDoAtEdges(t *testing.T) {
	words := edgeWords()
	for _, op := range operations {
		for _, a := range words {
			for _, b := range words {
				check(t, op, a, b)
			}
		}
	}
}

// P1.2: every word as each of the two, so that shifts meet every second word as well.
func TestDoOverAllWords(t *testing.T) {
	for _, op := range operations {
		for n := 0; n <= 65535; n++ {
			for _, other := range []int{0, 1, 21, 32769, 65535} {
				check(t, op, n, other)
				check(t, op, other, n)
			}
		}
	}
}

// P1.2
func TestDoRefusesKinds(t *testing.T) {
	for _, op := range append([]int{0, 11, 12, 15, 16, 17, 257}, nonWords...) {
		refused(t, op, 1, 1, api.ErrKind)
	}
}

// P1.2
func TestDoRefusesNonWords(t *testing.T) {
	for _, op := range operations {
		for _, n := range nonWords {
			refused(t, op, n, 0, api.ErrRange)
			refused(t, op, 65535, n, api.ErrRange)
			refused(t, op, n, n, api.ErrRange)
		}
	}
}

// P1.2: the error that is named first is the one that is told.
func TestDoRefusesKindsAheadOfNonWords(t *testing.T) {
	for _, op := range []int{math.MinInt, -1, 0, 11, math.MaxInt} {
		for _, n := range nonWords {
			refused(t, op, n, 1, api.ErrKind)
			refused(t, op, 1, n, api.ErrKind)
			refused(t, op, n, n, api.ErrKind)
		}
	}
}

func check(t *testing.T, op, a, b int) {
	t.Helper()
	got, e := Do(op, a, b)
	if want := byBits(op, a, b); got != want || e != api.OK {
		t.Fatalf("Do(%d, %d, %d) = %d, %d; want %d, 0", op, a, b, got, int(e), want)
	}
}

func refused(t *testing.T, op, a, b int, want api.Errno) {
	t.Helper()
	if got, e := Do(op, a, b); got != 0 || e != want {
		t.Errorf("Do(%d, %d, %d) = %d, %d; want 0, %d", op, a, b, got, int(e), int(want))
	}
}

func edgeWords() []int {
	l := []int{0, 65535, 21845, 43690, 12345, 54321}
	for bit := 1; bit < 65536; bit *= 2 {
		l = append(l, bit, bit-1, bit+1)
	}
	return l
}

// byBits works the answer out another way than the program does: bit by bit, by carries and by moving single bits.
func byBits(op, a, b int) int {
	x, y := bitsOf(a), bitsOf(b)
	switch op {
	case api.Add:
		return valueOf(sum(x, y, 0))
	case api.Sub:
		return valueOf(sum(x, each(y, y, func(p, _ int) int { return 1 - p }), 1))
	case api.Mul:
		var total [16]int
		for i, bit := range y {
			if bit == 1 {
				total = sum(total, moved(x, i), 0)
			}
		}
		return valueOf(total)
	case api.And:
		return valueOf(each(x, y, func(p, q int) int { return p * q }))
	case api.Or:
		return valueOf(each(x, y, func(p, q int) int { return max(p, q) }))
	case api.Xor:
		return valueOf(each(x, y, func(p, q int) int { return (p + q) % 2 }))
	case api.Lt:
		return below(x, y)
	case api.Eq:
		return (1 - below(x, y)) * (1 - below(y, x))
	case api.Shl:
		return valueOf(moved(x, b%16))
	case api.Shr:
		return valueOf(moved(x, -(b % 16)))
	}
	return -1
}

func bitsOf(n int) (l [16]int) {
	for i := range l {
		l[i] = n % 2
		n /= 2
	}
	return l
}

func valueOf(l [16]int) int {
	n := 0
	for i := 15; i >= 0; i-- {
		n = 2*n + l[i]
	}
	return n
}

func sum(x, y [16]int, carry int) (l [16]int) {
	for i := range l {
		s := x[i] + y[i] + carry
		l[i], carry = s%2, s/2
	}
	return l
}

func each(x, y [16]int, f func(p, q int) int) (l [16]int) {
	for i := range l {
		l[i] = f(x[i], y[i])
	}
	return l
}

func moved(x [16]int, up int) (l [16]int) {
	for i, bit := range x {
		if to := i + up; to >= 0 && to < 16 {
			l[to] = bit
		}
	}
	return l
}

func below(x, y [16]int) int {
	for i := 15; i >= 0; i-- {
		if x[i] != y[i] {
			return y[i]
		}
	}
	return 0
}
