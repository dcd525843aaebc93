package code

import (
	"math"
	"slices"
	"testing"

	"barbican/api"
)

// nonWords lie beyond both edges, near them and far off; the lowest bits of some look like a word.
var nonWords = []int{
	math.MinInt, math.MinInt32, -65536, -65535, -16, -1,
	65536, 65537, 65551, 1 << 31, 1<<32 + 1, math.MaxInt - 1, math.MaxInt,
}

// allowed, for each Op: the least and the greatest A, the greatest B and C; numbers, so that no constant stands between the document and them.
var allowed = map[int][4]int{
	1:  {0, 65535, 0, 0}, // Push
	2:  {0, 0, 0, 0},
	3:  {0, 0, 0, 0},
	4:  {0, 7, 0, 0}, // Get
	5:  {0, 7, 0, 0}, // Put
	6:  {0, 0, 0, 0},
	7:  {0, 0, 0, 0},
	8:  {1, 10, 0, 0},   // Do
	9:  {0, 1199, 0, 0}, // Jump
	10: {0, 1199, 0, 0}, // Jz
	11: {0, 1199, 4, 0}, // Call
	12: {0, 4, 7, 4},    // Gate
	13: {0, 0, 0, 0},
	14: {0, 0, 0, 0},
	15: {0, 0, 0, 0},
}

// numbers of fields: each bound of any Op, and what lies on both sides of it.
func numbers() []int {
	l := slices.Clone(nonWords)
	for _, n := range []int{1, 4, 7, 10, 40, 250, 1199, 4799, 65534} {
		l = append(l, n-1, n, n+1)
	}
	return append(l, 5, 8, 12, 20, 100, 300, 1201)
}

func wantOf(i api.Instr) api.Errno {
	b, is := allowed[i.Op]
	switch {
	case !is:
		return api.ErrKind
	case i.A < b[0] || i.A > b[1] || i.B < 0 || i.B > b[2] || i.C < 0 || i.C > b[3]:
		return api.ErrRange
	}
	return api.OK
}

// P2.1: each Op with each edge in each field.
func TestCheckAtEdges(t *testing.T) {
	fields := numbers()
	for op := -3; op <= 20; op++ {
		for _, a := range fields {
			for _, b := range fields {
				for _, c := range fields {
					checked(t, api.Instr{Op: op, A: a, B: b, C: c})
				}
			}
		}
	}
}

// P2.1: each number that may be, and some behind, as each field of each Op.
func TestCheckOverAllNumbers(t *testing.T) {
	for op := 0; op <= 16; op++ {
		for n := -70000; n <= 70000; n++ {
			checked(t, api.Instr{Op: op, A: n})
			checked(t, api.Instr{Op: op, A: 1, B: n})
			checked(t, api.Instr{Op: op, A: 1, C: n})
		}
	}
}

// P2.1: by hand.
func TestCheckByHand(t *testing.T) {
	for _, c := range []struct {
		i    api.Instr
		want api.Errno
	}{
		{api.Instr{Op: api.Push, A: 65535}, api.OK},
		{api.Instr{Op: api.Push, A: 65536}, api.ErrRange},
		{api.Instr{Op: api.Push, A: -1}, api.ErrRange},
		{api.Instr{Op: api.Push, A: 1, B: 1}, api.ErrRange},
		{api.Instr{Op: api.Drop}, api.OK},
		{api.Instr{Op: api.Drop, A: 1}, api.ErrRange},
		{api.Instr{Op: api.Dup, C: 1}, api.ErrRange},
		{api.Instr{Op: api.Get, A: 7}, api.OK},
		{api.Instr{Op: api.Get, A: 8}, api.ErrRange},
		{api.Instr{Op: api.Put, A: 7}, api.OK},
		{api.Instr{Op: api.Put, A: 8}, api.ErrRange},
		{api.Instr{Op: api.Load, B: 1}, api.ErrRange},
		{api.Instr{Op: api.Store, A: -1}, api.ErrRange},
		{api.Instr{Op: api.Do}, api.ErrRange},
		{api.Instr{Op: api.Do, A: api.Add}, api.OK},
		{api.Instr{Op: api.Do, A: api.Shr}, api.OK},
		{api.Instr{Op: api.Do, A: 11}, api.ErrRange},
		{api.Instr{Op: api.Jump, A: 1199}, api.OK},
		{api.Instr{Op: api.Jump, A: 1200}, api.ErrRange},
		{api.Instr{Op: api.Jz, A: 1199}, api.OK},
		{api.Instr{Op: api.Jz, A: 1200}, api.ErrRange},
		{api.Instr{Op: api.Call, A: 1199, B: 4}, api.OK},
		{api.Instr{Op: api.Call, A: 1199, B: 5}, api.ErrRange},
		{api.Instr{Op: api.Call, A: 1200, B: 4}, api.ErrRange},
		{api.Instr{Op: api.Call, A: 1, B: 1, C: 1}, api.ErrRange},
		{api.Instr{Op: api.Gate, A: 4, B: 7, C: 4}, api.OK},
		{api.Instr{Op: api.Gate, A: 5, B: 7, C: 4}, api.ErrRange},
		{api.Instr{Op: api.Gate, A: 4, B: 8, C: 4}, api.ErrRange},
		{api.Instr{Op: api.Gate, A: 4, B: 7, C: 5}, api.ErrRange},
		{api.Instr{Op: api.Ret}, api.OK},
		{api.Instr{Op: api.Tell}, api.OK},
		{api.Instr{Op: api.Trap}, api.OK},
		{api.Instr{Op: api.Trap, C: math.MaxInt}, api.ErrRange},
		{api.Instr{}, api.ErrKind},
		{api.Instr{Op: 16}, api.ErrKind},
	} {
		if got := Check(c.i); got != c.want {
			t.Errorf("Check(%v) = %d, want %d", c.i, int(got), int(c.want))
		}
	}
}

// P2.1: the error that is named first is the one that is told.
func TestCheckRefusesKindsAheadOfNumbers(t *testing.T) {
	for _, op := range append([]int{0, 16, 17, 31, 257, 65535}, nonWords...) {
		for _, n := range append([]int{0, 1}, nonWords...) {
			if got := Check(api.Instr{Op: op, A: n, B: n, C: n}); got != api.ErrKind {
				t.Errorf("Check of Op %d with %d = %d", op, n, int(got))
			}
		}
	}
}

// every instruction at its edges that may be, and their words.
func every() (l []api.Instr, words []int) {
	for op := 1; op <= 15; op++ {
		b := allowed[op]
		for _, w := range [][]int{{op, b[0], 0, 0}, {op, b[1], b[2], b[3]}} {
			l = append(l, api.Instr{Op: w[0], A: w[1], B: w[2], C: w[3]})
			words = append(words, w...)
		}
	}
	return l, words
}

// P2.2
func TestEncode(t *testing.T) {
	encoded(t, nil, nil)
	encoded(t, []api.Instr{}, nil)
	encoded(t, []api.Instr{{Op: api.Push, A: 9}}, []int{1, 9, 0, 0})
	encoded(t, []api.Instr{{Op: api.Gate, A: 1, B: 2, C: 3}, {Op: api.Ret}}, []int{12, 1, 2, 3, 13, 0, 0, 0})
	l, words := every()
	encoded(t, l, words)
	for i := range l {
		encoded(t, l[i:i+1], words[4*i:4*i+4])
	}
}

// P2.2: the greatest list that may be, and one more; its length is asked ahead of what is in it.
func TestEncodeSize(t *testing.T) {
	l := make([]api.Instr, 1200)
	var words []int
	for i := range l {
		l[i] = api.Instr{Op: api.Jump, A: i}
		words = append(words, 9, i, 0, 0)
	}
	encoded(t, l, words)
	unencoded(t, append(slices.Clone(l), api.Instr{Op: api.Ret}), api.ErrSize)
	unencoded(t, make([]api.Instr, 1201), api.ErrSize)
	unencoded(t, make([]api.Instr, 1200), api.ErrKind)
	unencoded(t, make([]api.Instr, 100000), api.ErrSize)
}

// P2.2: the first one that is refused tells the error, wherever it stands.
func TestEncodeRefuses(t *testing.T) {
	ret, kind, far := api.Instr{Op: api.Ret}, api.Instr{Op: 16, A: -1}, api.Instr{Op: api.Get, A: 8}
	unencoded(t, []api.Instr{kind}, api.ErrKind)
	unencoded(t, []api.Instr{far}, api.ErrRange)
	unencoded(t, []api.Instr{ret, far, kind}, api.ErrRange)
	unencoded(t, []api.Instr{ret, kind, far}, api.ErrKind)
	unencoded(t, []api.Instr{ret, ret, ret, far}, api.ErrRange)
	for at := range 1200 {
		l := slices.Repeat([]api.Instr{ret}, 1200)
		l[at] = far
		unencoded(t, l, api.ErrRange)
	}
	for _, n := range nonWords {
		unencoded(t, []api.Instr{ret, {Op: n}}, api.ErrKind)
		unencoded(t, []api.Instr{ret, {Op: api.Push, A: n}}, api.ErrRange)
		unencoded(t, []api.Instr{ret, {Op: api.Call, B: n}}, api.ErrRange)
		unencoded(t, []api.Instr{ret, {Op: api.Gate, C: n}}, api.ErrRange)
	}
}

// P2.3
func TestDecode(t *testing.T) {
	decoded(t, nil, nil)
	decoded(t, []int{}, nil)
	decoded(t, []int{15, 0, 0, 0}, []api.Instr{{Op: api.Trap}})
	decoded(t, []int{12, 1, 2, 3, 1, 65535, 0, 0}, []api.Instr{{Op: api.Gate, A: 1, B: 2, C: 3}, {Op: api.Push, A: 65535}})
	l, words := every()
	decoded(t, words, l)
	for i := range l {
		decoded(t, words[4*i:4*i+4], l[i:i+1])
	}
}

// P2.3: the greatest list that may be, and those behind it: too many is told ahead of not four each, and of what is in it.
func TestDecodeSize(t *testing.T) {
	words := slices.Repeat([]int{9, 1199, 0, 0}, 1200)
	decoded(t, words, slices.Repeat([]api.Instr{{Op: api.Jump, A: 1199}}, 1200))
	for n := 4801; n <= 4808; n++ {
		undecoded(t, make([]int, n), api.ErrSize)
		undecoded(t, slices.Repeat([]int{-1}, n), api.ErrSize)
	}
	undecoded(t, slices.Repeat(words, 2), api.ErrSize)
	undecoded(t, make([]int, 4800), api.ErrKind)
	undecoded(t, make([]int, 4799), api.ErrForm)
}

// P2.3: what is not four each is told ahead of what is in it.
func TestDecodeForm(t *testing.T) {
	for n := range 4801 {
		if n%4 != 0 {
			undecoded(t, slices.Repeat([]int{13, 0, 0, 0}, 1200)[:n], api.ErrForm)
			undecoded(t, slices.Repeat([]int{-1}, n), api.ErrForm)
		}
	}
}

// P2.3: four by four: a number that is no word ahead of what Check refuses of the same four, but behind that of those ahead.
func TestDecodeRefuses(t *testing.T) {
	undecoded(t, []int{16, 0, 0, 0}, api.ErrKind)
	undecoded(t, []int{0, 0, 0, 0}, api.ErrKind)
	undecoded(t, []int{65535, 65535, 65535, 65535}, api.ErrKind)
	undecoded(t, []int{8, 0, 0, 0}, api.ErrRange)
	undecoded(t, []int{13, 0, 0, 0, 12, 4, 7, 5}, api.ErrRange)
	for _, n := range nonWords {
		undecoded(t, []int{n, 0, 0, 0}, api.ErrRange)
		undecoded(t, []int{1, n, 0, 0}, api.ErrRange)
		for field := range 4 {
			four := []int{16, 0, 0, 0}
			four[field] = n
			undecoded(t, four, api.ErrRange)
			undecoded(t, append([]int{16, 0, 0, 0}, four...), api.ErrKind)
			undecoded(t, append(slices.Clone(four), 16, 0, 0, 0), api.ErrRange)
			undecoded(t, append([]int{13, 0, 0, 0}, four...), api.ErrRange)
		}
	}
	for at := range 1200 {
		words := slices.Repeat([]int{13, 0, 0, 0}, 1200)
		words[4*at] = 16
		undecoded(t, words, api.ErrKind)
	}
}

// P2.2, P2.3: a list that is handed in keeps its spare room, and no answer shares memory with it or with another answer.
func TestListsAreNotShared(t *testing.T) {
	l, words := every()
	l, words = slices.Grow(l, 50), slices.Grow(words, 50)
	allInstrs, allWords := l[:cap(l)], words[:cap(words)]
	wasInstrs, wasWords := slices.Clone(allInstrs), slices.Clone(allWords)
	w1, _ := Encode(l)
	w2, _ := Encode(l)
	i1, _ := Decode(words)
	i2, _ := Decode(words)
	overwrite(w1, -7)
	overwrite(i1, api.Instr{Op: -7})
	if !slices.Equal(w2, words) || !slices.Equal(i2, l) {
		t.Error("an answer shares memory with another one")
	}
	overwrite(w2, -7)
	overwrite(i2, api.Instr{Op: -7})
	if !slices.Equal(allInstrs, wasInstrs) || !slices.Equal(allWords, wasWords) {
		t.Error("a list that was handed in was changed, or is shared")
	}
}

func overwrite[T any](l []T, with T) {
	l = l[:cap(l)]
	for i := range l {
		l[i] = with
	}
}

func checked(t *testing.T, i api.Instr) {
	t.Helper()
	if got, want := Check(i), wantOf(i); got != want {
		t.Fatalf("Check(%v) = %d, want %d", i, int(got), int(want))
	}
}

func encoded(t *testing.T, l []api.Instr, want []int) {
	t.Helper()
	was := slices.Clone(l)
	if got, e := Encode(l); e != api.OK || !slices.Equal(got, want) {
		t.Errorf("Encode(%v) = %v, %d; want %v", l, got, int(e), want)
	}
	if !slices.Equal(l, was) {
		t.Errorf("Encode changed %v to %v", was, l)
	}
}

func unencoded(t *testing.T, l []api.Instr, want api.Errno) {
	t.Helper()
	was := slices.Clone(l)
	if got, e := Encode(l); e != want || len(got) != 0 {
		t.Errorf("Encode of %d instructions = %v, %d; want none, %d", len(l), got, int(e), int(want))
	}
	if !slices.Equal(l, was) {
		t.Errorf("Encode changed %v to %v", was, l)
	}
}

func decoded(t *testing.T, l []int, want []api.Instr) {
	t.Helper()
	was := slices.Clone(l)
	if got, e := Decode(l); e != api.OK || !slices.Equal(got, want) {
		t.Errorf("Decode(%v) = %v, %d; want %v", l, got, int(e), want)
	}
	if !slices.Equal(l, was) {
		t.Errorf("Decode changed %v to %v", was, l)
	}
}

func undecoded(t *testing.T, l []int, want api.Errno) {
	t.Helper()
	was := slices.Clone(l)
	if got, e := Decode(l); e != want || len(got) != 0 {
		t.Errorf("Decode of %d words = %v, %d; want none, %d", len(l), got, int(e), int(want))
	}
	if !slices.Equal(l, was) {
		t.Errorf("Decode changed %v to %v", was, l)
	}
}
