package mem

import (
	"math"
	"slices"
	"testing"

	"barbican/api"
)

// nonWords lie beyond both edges, near them and far off; the lowest bits of some look like a word.
var nonWords = []int{
	math.MinInt, math.MinInt32, -65536, -65535, -16, -1,
	65536, 65537, 65551, 1 << 31, 1<<32 + 1, math.MaxInt - 1, math.MaxInt,
}

// far lie outside all places, parts and numbers of words; the lowest bits of some look like one.
var far = append([]int{-2, -3, 1200, 1201, 65535, 1 << 33}, nonWords...)

func ret(n int) []api.Instr { return slices.Repeat([]api.Instr{{Op: api.Ret}}, n) }

// spans: an image of parts with so many words each, and nothing else.
func spans(sizes ...int) api.Image {
	var m api.Image
	from := 0
	for _, n := range sizes {
		m.Parts = append(m.Parts, api.Part{From: from, To: from + n})
		from += n
	}
	return m
}

// one: an image of one part with this code and these entries, and no words.
func one(l []api.Instr, entries ...api.Entry) api.Image {
	return api.Image{Parts: []api.Part{{Code: l, Entries: entries}}}
}

// whole: an image of three parts, in which each part has all that a part may have.
func whole() api.Image {
	m := spans(2, 0, 3)
	for k := range m.Parts {
		m.Parts[k].Code = []api.Instr{{Op: api.Push, A: 65535}, {Op: api.Gate, A: 4, B: 7, C: 4}, {Op: api.Ret}}
		m.Parts[k].Entries = []api.Entry{{At: 0, Params: 4}, {At: 2}}
	}
	return m
}

func wholeData() []int { return []int{10, 65535, 0, 12, 13} }

func clone(m api.Image) api.Image {
	c := api.Image{Parts: slices.Clone(m.Parts)}
	for k, p := range c.Parts {
		c.Parts[k].Code, c.Parts[k].Entries = slices.Clone(p.Code), slices.Clone(p.Entries)
	}
	return c
}

func same(a, b api.Image) bool {
	return slices.EqualFunc(a.Parts, b.Parts, func(p, q api.Part) bool {
		return p.From == q.From && p.To == q.To && slices.Equal(p.Code, q.Code) && slices.Equal(p.Entries, q.Entries)
	})
}

// P3.1
func TestCheckHolds(t *testing.T) {
	checked(t, api.Image{}, api.OK)
	checked(t, api.Image{Parts: []api.Part{}}, api.OK)
	checked(t, api.Image{Parts: []api.Part{{}}}, api.OK)
	checked(t, spans(1), api.OK)
	checked(t, spans(0, 3, 0, 4, 0), api.OK)
	checked(t, whole(), api.OK)
	checked(t, one(ret(1), api.Entry{}, api.Entry{}), api.OK)
}

// P3.1: each size at its greatest, and one more.
func TestCheckSizes(t *testing.T) {
	checked(t, spans(0, 0, 0, 0, 0), api.OK)
	checked(t, spans(0, 0, 0, 0, 0, 0), api.ErrSize)
	checked(t, api.Image{Parts: make([]api.Part, 100000)}, api.ErrSize)
	checked(t, one(ret(1200)), api.OK)
	checked(t, one(ret(1201)), api.ErrSize)
	checked(t, one(ret(100000)), api.ErrSize)
	checked(t, one(ret(1), make([]api.Entry, 8)...), api.OK)
	checked(t, one(ret(1), make([]api.Entry, 9)...), api.ErrSize)
	checked(t, one(ret(1200), make([]api.Entry, 8)...), api.OK)
	checked(t, one(nil, make([]api.Entry, 100000)...), api.ErrSize)
}

// P3.1: the first instruction that may not be tells the error, wherever it stands.
func TestCheckInstructions(t *testing.T) {
	for at := range 1200 {
		l := ret(1200)
		l[at] = api.Instr{Op: api.Do, A: 11}
		checked(t, one(l), api.ErrRange)
		l[at] = api.Instr{Op: 16}
		checked(t, one(l), api.ErrKind)
	}
	none, beyond := api.Instr{}, api.Instr{Op: api.Get, A: 8}
	checked(t, one([]api.Instr{none, beyond}), api.ErrKind)
	checked(t, one([]api.Instr{beyond, none}), api.ErrRange)
	for _, n := range nonWords {
		checked(t, one([]api.Instr{{Op: n}}), api.ErrKind)
		checked(t, one([]api.Instr{{Op: api.Push, A: n}}), api.ErrRange)
		checked(t, one([]api.Instr{{Op: api.Trap, B: n}}), api.ErrRange)
		checked(t, one([]api.Instr{{Op: api.Gate, C: n}}), api.ErrRange)
	}
}

// P3.1: what an instruction names need not be there; the machine sees to that.
func TestCheckAsksNoMoreOfInstructions(t *testing.T) {
	checked(t, one([]api.Instr{{Op: api.Jump, A: 1199}, {Op: api.Call, A: 1199, B: 4}, {Op: api.Gate, A: 4, B: 7, C: 4}}), api.OK)
}

// P3.1: an entry is at a place of the code of its own part.
func TestCheckEntries(t *testing.T) {
	for at := -3; at <= 6; at++ {
		for params := -3; params <= 8; params++ {
			want := api.ErrRange
			if 0 <= at && at <= 2 && 0 <= params && params <= 4 {
				want = api.OK
			}
			y := api.Entry{At: at, Params: params}
			checked(t, one(ret(3), y), want)
			checked(t, one(ret(3), api.Entry{}, y), want)
			checked(t, one(ret(3), y, api.Entry{At: 2}), want)
			checked(t, one(nil, y), api.ErrRange)
		}
	}
	checked(t, one(ret(1200), api.Entry{At: 1199}), api.OK)
	checked(t, one(ret(1199), api.Entry{At: 1199}), api.ErrRange)
	for _, n := range far {
		checked(t, one(ret(1200), api.Entry{At: n}), api.ErrRange)
		checked(t, one(ret(1200), api.Entry{Params: n}), api.ErrRange)
	}
	m := api.Image{Parts: []api.Part{{Code: ret(9)}, {Code: ret(2), Entries: []api.Entry{{At: 2}}}, {Code: ret(9)}}}
	checked(t, m, api.ErrRange)
}

// P3.1: each From and To near both edges of a part, as the first part and behind another one.
func TestCheckSpans(t *testing.T) {
	for from := -2; from <= 8; from++ {
		for to := -2; to <= 8; to++ {
			p := api.Part{From: from, To: to}
			checked(t, api.Image{Parts: []api.Part{p}}, state(from == 0 && to >= 0))
			checked(t, api.Image{Parts: []api.Part{{To: 5}, p}}, state(from == 5 && to >= 5))
			checked(t, api.Image{Parts: []api.Part{p, {From: to, To: 250}}}, state(from == 0 && to >= 0))
		}
	}
	checked(t, spans(250), api.OK)
	checked(t, spans(251), api.ErrState)
	checked(t, spans(250, 0, 0), api.OK)
	checked(t, spans(100, 100, 50), api.OK)
	checked(t, spans(100, 100, 51), api.ErrState)
	for _, n := range far {
		checked(t, api.Image{Parts: []api.Part{{From: n, To: n}}}, api.ErrState)
		checked(t, api.Image{Parts: []api.Part{{From: n, To: 250}}}, api.ErrState)
		checked(t, api.Image{Parts: []api.Part{{To: n}}}, api.ErrState)
		checked(t, api.Image{Parts: []api.Part{{}, {To: n}}}, api.ErrState)
	}
}

func state(is bool) api.Errno {
	if is {
		return api.OK
	}
	return api.ErrState
}

// fault of an image, and what is told of it.
type fault struct {
	make func(m *api.Image)
	want api.Errno
}

// partFaults: of the part k, those first that are told first. Instructions are told one by one, so the kind stands ahead of the range.
func partFaults(k int) []fault {
	return []fault{
		{func(m *api.Image) { p := &m.Parts[k]; p.Code = append(p.Code, ret(1198)...) }, api.ErrSize},
		{func(m *api.Image) { p := &m.Parts[k]; p.Entries = append(p.Entries, make([]api.Entry, 7)...) }, api.ErrSize},
		{func(m *api.Image) { m.Parts[k].Code[0].Op = 0 }, api.ErrKind},
		{func(m *api.Image) { m.Parts[k].Code[1].A = 5 }, api.ErrRange},
		{func(m *api.Image) { m.Parts[k].Code[2].Op = 16 }, api.ErrKind},
		{func(m *api.Image) { m.Parts[k].Entries[0].At = 5000 }, api.ErrRange},
		{func(m *api.Image) { m.Parts[k].Entries[1].Params = 5 }, api.ErrRange},
		{func(m *api.Image) { m.Parts[k].From-- }, api.ErrState},
		{func(m *api.Image) { m.Parts[k].To = 251 }, api.ErrState},
		{func(m *api.Image) { m.Parts[k].To = -1 }, api.ErrState},
	}
}

// faults of the image whole, those first that are told first.
func faults() []fault {
	l := []fault{{func(m *api.Image) { m.Parts = append(m.Parts, make([]api.Part, 3)...) }, api.ErrSize}}
	for k := range 3 {
		l = append(l, partFaults(k)...)
	}
	return l
}

// P3.1: of each two faults the one that is named first is told, part by part.
func TestCheckOrder(t *testing.T) {
	l := faults()
	for i, first := range l {
		m := whole()
		first.make(&m)
		checked(t, m, first.want)
		for _, second := range l[i+1:] {
			m := whole()
			second.make(&m)
			first.make(&m)
			checked(t, m, first.want)
		}
	}
}

// P3.2: the last part tells it, whatever the image is.
func TestWords(t *testing.T) {
	for _, c := range []struct {
		m    api.Image
		want int
	}{
		{api.Image{}, 0},
		{api.Image{Parts: []api.Part{}}, 0},
		{spans(0), 0},
		{spans(2), 2},
		{spans(2, 3), 5},
		{spans(2, 3, 0), 5},
		{spans(250), 250},
		{spans(0, 0, 0, 0, 250), 250},
		{whole(), 5},
		{api.Image{Parts: []api.Part{{To: 9}, {From: 7, To: 4}}}, 4},
		{api.Image{Parts: []api.Part{{To: 9}, {}}}, 0},
		{api.Image{Parts: []api.Part{{From: 3, To: -8}}}, -8},
		{api.Image{Parts: []api.Part{{To: math.MaxInt}}}, math.MaxInt},
		{api.Image{Parts: []api.Part{{To: math.MinInt}}}, math.MinInt},
		{spans(1, 1, 1, 1, 1, 1, 1), 7},
	} {
		was := clone(c.m)
		if got := Words(c.m); got != c.want {
			t.Errorf("Words(%v) = %d, want %d", c.m, got, c.want)
		}
		if !same(c.m, was) {
			t.Errorf("Words changed %v to %v", was, c.m)
		}
	}
}

// P3.2
func TestCheckDataHolds(t *testing.T) {
	dataChecked(t, api.Image{}, nil, api.OK)
	dataChecked(t, api.Image{}, []int{}, api.OK)
	dataChecked(t, spans(0, 0), nil, api.OK)
	dataChecked(t, spans(2), []int{0, 65535}, api.OK)
	dataChecked(t, whole(), wholeData(), api.OK)
	dataChecked(t, spans(250), slices.Repeat([]int{65535}, 250), api.OK)
}

// P3.2: how many words there are is asked ahead of what they are.
func TestCheckDataForm(t *testing.T) {
	for words := range 8 {
		for n := range 300 {
			want := api.ErrForm
			if n == words {
				want = api.OK
			}
			dataChecked(t, spans(words/2, words-words/2), make([]int, n), want)
			if n > 0 && n != words {
				dataChecked(t, spans(words), slices.Repeat([]int{-1}, n), api.ErrForm)
			}
		}
	}
	dataChecked(t, spans(250), make([]int, 249), api.ErrForm)
	dataChecked(t, spans(250), make([]int, 251), api.ErrForm)
	dataChecked(t, api.Image{}, make([]int, 1), api.ErrForm)
	dataChecked(t, api.Image{}, []int{-1}, api.ErrForm)
}

// P3.2: a number that is no word, wherever it stands.
func TestCheckDataRange(t *testing.T) {
	for at := range 250 {
		for _, n := range nonWords {
			data := make([]int, 250)
			data[at] = n
			dataChecked(t, spans(100, 150), data, api.ErrRange)
		}
	}
}

// P3.2: what Check refuses goes ahead of all that is wrong with the words, even where they are so many as Words tells.
func TestCheckDataAsksTheImageFirst(t *testing.T) {
	for _, f := range faults() {
		m := whole()
		f.make(&m)
		dataChecked(t, m, wholeData(), f.want)
		dataChecked(t, m, nil, f.want)
		dataChecked(t, m, []int{-1, -1, -1, -1, -1}, f.want)
		dataChecked(t, m, make([]int, max(0, Words(m))), f.want)
	}
	dataChecked(t, spans(251), make([]int, 251), api.ErrState)
	dataChecked(t, api.Image{Parts: []api.Part{{To: 3}, {From: 3, To: 0}}}, nil, api.ErrState)
}

// P3.3: every place by every part: its own words, and no others.
func TestLoadAndStoreAtEveryPlace(t *testing.T) {
	m, data := whole(), wholeData()
	own := [][]int{{0, 1}, {}, {2, 3, 4}}
	for p := -3; p <= 8; p++ {
		for at := -3; at <= 260; at++ {
			switch {
			case p < 0 || p > 2:
				refused(t, m, data, p, at, 1, api.ErrNone)
			case !slices.Contains(own[p], at):
				refused(t, m, data, p, at, 1, api.ErrEdge)
			default:
				held(t, m, data, p, at)
			}
		}
	}
}

// P3.3: the greatest image, with words that all differ.
func TestLoadAndStoreInTheGreatestImage(t *testing.T) {
	m := spans(50, 50, 50, 50, 50)
	var data []int
	for n := range 250 {
		data = append(data, 65535-n)
	}
	for at := range 250 {
		for p := range 5 {
			if at/50 == p {
				held(t, m, data, p, at)
			} else {
				refused(t, m, data, p, at, 1, api.ErrEdge)
			}
		}
	}
	refused(t, m, data, 4, 250, 1, api.ErrEdge)
	refused(t, m, data, 0, -1, 1, api.ErrEdge)
}

// P3.3: by hand.
func TestLoadAndStoreByHand(t *testing.T) {
	m := spans(2, 1)
	if n, e := Load(m, []int{5, 6, 7}, 0, 1); n != 6 || e != api.OK {
		t.Errorf("Load = %d, %d; want 6, 0", n, int(e))
	}
	if n, e := Load(m, []int{5, 6, 7}, 1, 2); n != 7 || e != api.OK {
		t.Errorf("Load = %d, %d; want 7, 0", n, int(e))
	}
	if l, e := Store(m, []int{5, 6, 7}, 0, 0, 9); !slices.Equal(l, []int{9, 6, 7}) || e != api.OK {
		t.Errorf("Store = %v, %d; want [9 6 7], 0", l, int(e))
	}
	if l, e := Store(m, []int{5, 6, 7}, 1, 2, 65535); !slices.Equal(l, []int{5, 6, 65535}) || e != api.OK {
		t.Errorf("Store = %v, %d; want [5 6 65535], 0", l, int(e))
	}
}

// P3.3: no part, and no place, far off.
func TestLoadAndStoreFarOff(t *testing.T) {
	m, data := whole(), wholeData()
	for _, n := range far {
		refused(t, m, data, n, 0, 1, api.ErrNone)
		refused(t, m, data, n, n, n, api.ErrNone)
		refused(t, m, data, 0, n, 1, api.ErrEdge)
		refused(t, m, data, 2, n, n, api.ErrEdge)
		refused(t, api.Image{}, nil, n, 0, 1, api.ErrNone)
	}
	refused(t, api.Image{}, nil, 0, 0, 1, api.ErrNone)
	refused(t, spans(0), nil, 0, 0, 1, api.ErrEdge)
}

// P3.3: of Store alone: n is no word; that is told behind all else.
func TestStoreRefusesNonWords(t *testing.T) {
	m, data := whole(), wholeData()
	for _, n := range nonWords {
		unstored(t, m, data, 0, 1, n, api.ErrRange)
		unstored(t, m, data, 2, 4, n, api.ErrRange)
		unstored(t, m, data, 0, 2, n, api.ErrEdge)
		unstored(t, m, data, 1, 2, n, api.ErrEdge)
		unstored(t, m, data, 3, 0, n, api.ErrNone)
		unstored(t, m, data[:4], 0, 1, n, api.ErrForm)
		unstored(t, m, []int{10, 65535, 0, 12, n}, 0, 1, n, api.ErrRange)
	}
}

// P3.3: what CheckData refuses goes ahead of the part and of the place, and hangs on all words, not on those of the part alone.
func TestLoadAndStoreAskTheWordsFirst(t *testing.T) {
	for _, f := range faults() {
		m := whole()
		f.make(&m)
		refused(t, m, wholeData(), 0, 0, 1, f.want)
		refused(t, m, wholeData(), 9, 0, 1, f.want)
		refused(t, m, []int{-1}, 0, 99, -1, f.want)
	}
	m := whole()
	refused(t, m, nil, 0, 0, 1, api.ErrForm)
	refused(t, m, make([]int, 4), 9, 0, 1, api.ErrForm)
	refused(t, m, make([]int, 6), 0, 9, 1, api.ErrForm)
	for at := range 5 {
		data := wholeData()
		data[at] = 65536
		refused(t, m, data, 0, 0, 1, api.ErrRange)
		refused(t, m, data, 2, 2, 1, api.ErrRange)
		refused(t, m, data, 1, 0, 1, api.ErrRange)
		refused(t, m, data, 9, 0, 1, api.ErrRange)
	}
}

// P3.3: the words that are handed in keep their spare room, and no answer shares memory with them or with another answer, be they few or many.
func TestListsAreNotShared(t *testing.T) {
	for words := 1; words <= 250; words++ {
		m, data := spans(words), slices.Grow(make([]int, words), 50)
		all := data[:cap(data)]
		was := slices.Clone(all)
		at := words / 2
		want := slices.Clone(data)
		want[at] = 7
		l1, _ := Store(m, data, 0, at, 7)
		l2, _ := Store(m, data, 0, at, 7)
		overwrite(l1, -7)
		if !slices.Equal(l2, want) {
			t.Fatalf("an answer of %d words shares memory with another one", words)
		}
		overwrite(l2, -7)
		if !slices.Equal(all, was) {
			t.Fatalf("%d words that were handed in were changed, or are shared", words)
		}
	}
}

func overwrite(l []int, with int) {
	l = l[:cap(l)]
	for i := range l {
		l[i] = with
	}
}

func checked(t *testing.T, m api.Image, want api.Errno) {
	t.Helper()
	was := clone(m)
	if got := Check(m); got != want {
		t.Fatalf("Check(%v) = %d, want %d", short(m), int(got), int(want))
	}
	if !same(m, was) {
		t.Fatalf("Check changed %v to %v", short(was), short(m))
	}
}

func dataChecked(t *testing.T, m api.Image, data []int, want api.Errno) {
	t.Helper()
	was, wasData := clone(m), slices.Clone(data)
	if got := CheckData(m, data); got != want {
		t.Fatalf("CheckData(%v, %v) = %d, want %d", short(m), data, int(got), int(want))
	}
	if !same(m, was) || !slices.Equal(data, wasData) {
		t.Fatalf("CheckData changed %v, %v", short(was), wasData)
	}
}

// held: the part loads the word at the place, and may store the greatest and the least word there.
func held(t *testing.T, m api.Image, data []int, p, at int) {
	t.Helper()
	was, wasData := clone(m), slices.Clone(data)
	if n, e := Load(m, data, p, at); n != data[at] || e != api.OK {
		t.Errorf("Load(%d, %d) = %d, %d; want %d, 0", p, at, n, int(e), data[at])
	}
	for _, n := range []int{0, 1, 65535} {
		want := slices.Clone(wasData)
		want[at] = n
		if l, e := Store(m, data, p, at, n); !slices.Equal(l, want) || e != api.OK {
			t.Errorf("Store(%d, %d, %d) = %v, %d; want %v, 0", p, at, n, l, int(e), want)
		}
	}
	if !same(m, was) || !slices.Equal(data, wasData) {
		t.Errorf("Load or Store changed %v, %v", short(was), wasData)
	}
}

// refused: Load and Store tell the same of it.
func refused(t *testing.T, m api.Image, data []int, p, at, n int, want api.Errno) {
	t.Helper()
	if got, e := Load(m, data, p, at); got != 0 || e != want {
		t.Errorf("Load(%v, %v, %d, %d) = %d, %d; want 0, %d", short(m), data, p, at, got, int(e), int(want))
	}
	unstored(t, m, data, p, at, n, want)
}

func unstored(t *testing.T, m api.Image, data []int, p, at, n int, want api.Errno) {
	t.Helper()
	was, wasData := clone(m), slices.Clone(data)
	if l, e := Store(m, data, p, at, n); len(l) != 0 || e != want {
		t.Errorf("Store(%v, %v, %d, %d, %d) = %v, %d; want none, %d", short(m), data, p, at, n, l, int(e), int(want))
	}
	if !same(m, was) || !slices.Equal(data, wasData) {
		t.Errorf("Store changed %v, %v", short(was), wasData)
	}
}

// short: the beginning of an image, as a failure of a great one would drown its own telling.
func short(m api.Image) api.Image {
	c := clone(m)
	c.Parts = c.Parts[:min(len(c.Parts), 7)]
	for k, p := range c.Parts {
		c.Parts[k].Code = p.Code[:min(len(p.Code), 4)]
		c.Parts[k].Entries = p.Entries[:min(len(p.Entries), 4)]
	}
	return c
}
