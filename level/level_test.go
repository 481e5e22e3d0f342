package level_test

import (
	"math"
	"slices"
	"testing"

	"purfle/api"
	"purfle/level"
)

// kinds are all there are.
var kinds = []int{api.DenseL, api.PackedL, api.LooseL, api.SingleL, api.BlockL}

// maxSize is how many places a level has at the most.
const maxSize = 1 << 31

func whole(kind int) bool { return kind == api.DenseL || kind == api.BlockL }

// sample is a level, told by hand, and the places of the children of each that is ahead.
type sample struct {
	l      api.Level
	groups [][]int
}

// laid is the level of a kind and size that the chapter tells of groups that go with it.
func laid(kind, size int, groups ...[]int) sample {
	s := sample{api.Level{Kind: kind, Size: size}, groups}
	switch kind {
	case api.PackedL, api.LooseL:
		s.l.Pos = []int{0}
		for _, g := range groups {
			s.l.Crd = append(s.l.Crd, g...)
			s.l.Pos = append(s.l.Pos, len(s.l.Crd))
		}
	case api.SingleL:
		s.l.Crd = slices.Concat(groups...)
	}
	return s
}

// full are groups of each of so many places.
func full(ahead, size int) [][]int {
	g := make([][]int, ahead)
	for p := range g {
		g[p] = rising(size)
	}
	return g
}

func rising(n int) []int {
	l := make([]int, n)
	for k := range l {
		l[k] = k
	}
	return l
}

// mixed are groups that go with a kind and size, of no regular places.
func mixed(kind, size, ahead, salt int) [][]int {
	if whole(kind) {
		return full(ahead, size)
	}
	s := uint64(salt*1000 + size*10 + ahead)
	next := func(below int) int {
		s = s*6364136223846793005 + 1442695040888963407
		return int(s>>33) % below
	}
	g := make([][]int, ahead)
	for p := range g {
		if kind == api.SingleL {
			g[p] = []int{next(size)}
			continue
		}
		for range next(6) {
			if size > 0 {
				g[p] = append(g[p], next(size))
			}
		}
		slices.Sort(g[p])
		if kind == api.PackedL {
			g[p] = slices.Compact(g[p])
		}
	}
	return g
}

// samples are levels of all kinds and of some sizes, behind none, one, and some.
func samples() []sample {
	l := []sample{
		laid(api.PackedL, 4, []int{1, 3}, nil, []int{0}),
		laid(api.LooseL, 4, []int{1, 1, 2}, []int{0, 0, 0, 0}, nil, []int{3}),
		laid(api.LooseL, 1, nil, nil, []int{0, 0, 0}, nil),
		laid(api.SingleL, 4, []int{3}, []int{0}, []int{3}),
		laid(api.PackedL, 7, nil, nil, []int{6}, nil, nil, []int{0, 6}, nil),
		laid(api.PackedL, maxSize, []int{0, maxSize - 1}, []int{maxSize - 1}),
		laid(api.LooseL, maxSize, []int{0, maxSize - 1, maxSize - 1}, nil),
		laid(api.SingleL, maxSize, []int{maxSize - 1}, []int{0}),
	}
	for _, kind := range kinds {
		for _, size := range []int{0, 1, 2, 3, 5, 17} {
			if size == 0 && kind == api.BlockL {
				continue
			}
			for _, ahead := range []int{0, 1, 2, 4, 11} {
				if size == 0 && kind == api.SingleL && ahead > 0 {
					continue
				}
				for salt := range 3 {
					l = append(l, laid(kind, size, mixed(kind, size, ahead, salt)...))
				}
			}
		}
	}
	return l
}

// bad is a level that may not be, and the error that the chapter names first.
type bad struct {
	l     api.Level
	ahead int
	e     api.Errno
}

// badHeads may not be, whatever their numbers: behind so many, of that kind, of that size.
func badHeads() []bad {
	var l []bad
	for _, kind := range kinds {
		for _, ahead := range []int{-1, api.MaxBelow + 1, math.MinInt, math.MaxInt, 1 << 32} {
			l = append(l,
				bad{api.Level{Kind: kind, Size: 1}, ahead, api.ErrArg},
				bad{api.Level{Kind: kind, Size: 1, Pos: []int{0}}, ahead, api.ErrArg},
				bad{api.Level{Kind: kind, Size: 1, Pos: []int{0, 1}, Crd: []int{0}}, ahead, api.ErrArg})
		}
		for _, size := range []int{-1, maxSize + 1, math.MinInt, math.MaxInt, -maxSize} {
			for _, ahead := range []int{0, 1, 2} {
				s := laid(kind, size, full(ahead, 0)...)
				if kind == api.SingleL {
					s.l.Crd = make([]int, ahead)
				}
				l = append(l, bad{s.l, ahead, api.ErrArg})
			}
		}
	}
	for _, kind := range []int{-1, 5, 6, math.MinInt, math.MaxInt} {
		for _, ahead := range []int{0, 1, 2} {
			l = append(l,
				bad{api.Level{Kind: kind, Size: 1}, ahead, api.ErrArg},
				bad{api.Level{Kind: kind, Size: 1, Crd: make([]int, ahead)}, ahead, api.ErrArg},
				bad{api.Level{Kind: kind, Size: 1, Pos: make([]int, ahead+1)}, ahead, api.ErrArg})
		}
	}
	return append(l,
		bad{api.Level{Kind: api.BlockL}, 0, api.ErrArg},
		bad{api.Level{Kind: api.BlockL}, 1, api.ErrArg})
}

// badNumbers have not as many numbers as they should, or Pos does not go as it should.
func badNumbers() []bad {
	var l []bad
	for _, kind := range []int{api.DenseL, api.BlockL} {
		for _, ahead := range []int{0, 1, 2} {
			l = append(l,
				bad{api.Level{Kind: kind, Size: 2, Pos: []int{0}}, ahead, api.ErrArg},
				bad{api.Level{Kind: kind, Size: 2, Crd: []int{0}}, ahead, api.ErrArg},
				bad{api.Level{Kind: kind, Size: 2, Pos: []int{0, 2, 4}, Crd: []int{0, 1, 0, 1}}, ahead, api.ErrArg})
		}
	}
	for _, kind := range []int{api.PackedL, api.LooseL} {
		for _, x := range []struct {
			ahead    int
			pos, crd []int
		}{
			{0, nil, nil}, {0, []int{0, 0}, nil}, {0, []int{1}, nil}, {0, []int{-1}, nil}, {0, []int{0}, []int{0}}, {0, []int{1}, []int{0}},
			{1, nil, nil}, {1, []int{0}, nil}, {1, []int{0}, []int{0}}, {1, []int{0, 0, 0}, nil}, {1, []int{0, 1, 1}, []int{0}},
			{1, []int{0, 1}, nil}, {1, []int{0, 1}, []int{0, 1}}, {1, []int{0, 2}, []int{0}}, {1, []int{0, 0}, []int{0}}, {1, []int{0, -1}, nil},
			{1, []int{1, 1}, []int{0}}, {1, []int{-1, 1}, []int{0}}, {1, []int{-1, 0}, nil}, {1, []int{1, 2}, []int{0, 1}}, {1, []int{1, 0}, nil},
			{2, []int{0, 2, 1}, []int{0}}, {2, []int{0, -1, 1}, []int{0}}, {2, []int{0, 1}, []int{0}}, {2, []int{0, 2, 1}, []int{0, 1}},
			{2, []int{0, math.MaxInt, 1}, []int{0}}, {2, []int{0, math.MinInt, 1}, []int{0}}, {2, []int{math.MinInt, 0, 1}, []int{0}},
			{2, []int{0, 0, math.MaxInt}, []int{0}}, {3, []int{0, 2, 1, 3}, []int{0, 1, 2}}, {3, []int{0, 1, 4, 3}, []int{0, 1, 2}},
		} {
			l = append(l, bad{api.Level{Kind: kind, Size: 4, Pos: x.pos, Crd: x.crd}, x.ahead, api.ErrArg})
		}
	}
	for _, x := range []struct {
		ahead    int
		pos, crd []int
	}{
		{0, []int{0}, nil}, {0, nil, []int{0}}, {1, nil, nil}, {1, nil, []int{0, 1}}, {2, nil, []int{0}}, {3, nil, []int{0, 1, 2, 3}},
		{1, []int{0, 1}, []int{0}}, {1, []int{0}, []int{0}}, {api.MaxBelow, nil, nil},
	} {
		l = append(l, bad{api.Level{Kind: api.SingleL, Size: 4, Pos: x.pos, Crd: x.crd}, x.ahead, api.ErrArg})
	}
	return l
}

// badMany have more numbers, or children, than there may be.
func badMany() []bad {
	crd := make([]int, api.MaxCrd+1)
	none := make([]int, api.MaxCrd+1)
	for k := range none {
		none[k] = -1
	}
	var l []bad
	for _, kind := range []int{api.DenseL, api.BlockL} {
		for _, x := range []struct{ size, ahead int }{
			{api.MaxBelow + 1, 1}, {1 << 20, 2}, {2, api.MaxBelow/2 + 1}, {2, api.MaxBelow}, {1<<10 + 1, 1 << 10}, {maxSize, 1}, {maxSize, api.MaxBelow},
		} {
			l = append(l, bad{api.Level{Kind: kind, Size: x.size}, x.ahead, api.ErrLarge})
		}
	}
	for _, kind := range []int{api.PackedL, api.LooseL} {
		for _, crd := range [][]int{crd, none, rising(api.MaxCrd + 1)} {
			l = append(l, bad{api.Level{Kind: kind, Size: 1, Pos: []int{0, api.MaxCrd + 1}, Crd: crd}, 1, api.ErrLarge})
		}
	}
	for _, crd := range [][]int{crd, none} {
		l = append(l, bad{api.Level{Kind: api.SingleL, Size: 1, Crd: crd}, api.MaxCrd + 1, api.ErrLarge})
	}
	// What has not as many as it should, or may not be otherwise, is told ahead of too many.
	return append(l,
		bad{api.Level{Kind: api.PackedL, Size: 1, Pos: []int{0, api.MaxCrd}, Crd: crd}, 1, api.ErrArg},
		bad{api.Level{Kind: api.LooseL, Size: -1, Pos: []int{0, api.MaxCrd + 1}, Crd: crd}, 1, api.ErrArg},
		bad{api.Level{Kind: api.SingleL, Size: 1, Crd: crd}, api.MaxCrd, api.ErrArg},
		bad{api.Level{Kind: api.DenseL, Size: maxSize, Crd: []int{0}}, 1, api.ErrArg},
		bad{api.Level{Kind: api.DenseL, Size: maxSize + 1}, 1, api.ErrArg},
		bad{api.Level{Kind: api.BlockL, Size: 2}, api.MaxBelow + 1, api.ErrArg},
		bad{api.Level{Kind: 5, Size: 1, Crd: crd}, api.MaxCrd + 1, api.ErrArg})
}

// badPlaces have places that are none, or do not go as they should.
func badPlaces() []bad {
	var l []bad
	for _, at := range []int{-1, 4, 5, math.MinInt, math.MaxInt} {
		for _, kind := range []int{api.PackedL, api.LooseL} {
			l = append(l,
				bad{laid(kind, 4, []int{at}).l, 1, api.ErrRange},
				bad{laid(kind, 4, []int{0, at}).l, 1, api.ErrRange},
				bad{laid(kind, 4, []int{at, 0}).l, 1, api.ErrRange},
				bad{laid(kind, 4, nil, []int{1, 2, at}, nil).l, 3, api.ErrRange},
				// Ahead of it there is what does not rise.
				bad{laid(kind, 4, []int{3, 2, 1}, []int{at}).l, 2, api.ErrRange})
		}
		l = append(l,
			bad{laid(api.SingleL, 4, []int{at}).l, 1, api.ErrRange},
			bad{laid(api.SingleL, 4, []int{3}, []int{at}).l, 2, api.ErrRange},
			bad{laid(api.SingleL, 4, []int{at}, []int{3}).l, 2, api.ErrRange})
	}
	for _, kind := range []int{api.PackedL, api.LooseL, api.SingleL} {
		l = append(l, bad{laid(kind, 0, []int{0}).l, 1, api.ErrRange})
	}
	for _, kind := range []int{api.PackedL, api.LooseL} {
		l = append(l,
			bad{laid(kind, 4, []int{2, 1}).l, 1, api.ErrArg},
			bad{laid(kind, 4, []int{3, 0}).l, 1, api.ErrArg},
			bad{laid(kind, 4, []int{0, 2, 1}).l, 1, api.ErrArg},
			bad{laid(kind, 4, []int{1, 0, 2}).l, 1, api.ErrArg},
			bad{laid(kind, 4, []int{0, 1}, []int{3, 2}).l, 2, api.ErrArg},
			bad{laid(kind, 4, []int{3, 2}, []int{0, 1}).l, 2, api.ErrArg},
			bad{laid(kind, 4, nil, nil, []int{1, 0}, nil).l, 4, api.ErrArg})
	}
	return append(l,
		bad{laid(api.PackedL, 4, []int{1, 1}).l, 1, api.ErrArg},
		bad{laid(api.PackedL, 4, []int{0, 1, 2, 2}).l, 1, api.ErrArg},
		bad{laid(api.PackedL, 4, []int{0, 0, 1}).l, 1, api.ErrArg},
		bad{laid(api.PackedL, 4, []int{1}, []int{3, 3}).l, 2, api.ErrArg},
		bad{laid(api.PackedL, 1, nil, []int{0, 0}, nil).l, 3, api.ErrArg})
}

func badLevels() []bad {
	return slices.Concat(badHeads(), badNumbers(), badMany(), badPlaces())
}

// told are the children that groups tell, of each that is ahead, numbered one behind the other.
func told(groups [][]int) [][]api.Child {
	l := make([][]api.Child, len(groups))
	n := 0
	for p, g := range groups {
		for _, at := range g {
			l[p] = append(l[p], api.Child{At: at, N: n})
			n++
		}
	}
	return l
}

func isZero(l api.Level) bool {
	return l.Kind == 0 && l.Size == 0 && len(l.Pos) == 0 && len(l.Crd) == 0
}

func isSame(a, b api.Level) bool {
	return a.Kind == b.Kind && a.Size == b.Size && slices.Equal(a.Pos, b.Pos) && slices.Equal(a.Crd, b.Crd)
}

// brief is as much of a level as is worth telling.
func brief(l api.Level) api.Level {
	l.Pos = l.Pos[:min(len(l.Pos), 8)]
	l.Crd = l.Crd[:min(len(l.Crd), 8)]
	return l
}

// P4.1

func TestCheck(t *testing.T) {
	for _, s := range samples() {
		if e := level.Check(s.l, len(s.groups)); e != api.OK {
			t.Errorf("Check of %v behind %d: got error %d", s.l, len(s.groups), e)
		}
	}
	for _, x := range []bad{
		{api.Level{}, 0, api.OK},
		{api.Level{Pos: []int{}, Crd: []int{}}, 3, api.OK},
		{api.Level{Kind: api.BlockL, Size: 1, Pos: []int{}}, 3, api.OK},
		{api.Level{Kind: api.SingleL}, 0, api.OK},
		{api.Level{Kind: api.SingleL, Pos: []int{}, Crd: []int{}}, 0, api.OK},
		{api.Level{Kind: api.PackedL, Pos: []int{0}}, 0, api.OK},
		{api.Level{Kind: api.LooseL, Pos: []int{0}, Crd: []int{}}, 0, api.OK},
		{api.Level{Kind: api.PackedL, Pos: []int{0, 0, 0}}, 2, api.OK},
	} {
		if e := level.Check(x.l, x.ahead); e != x.e {
			t.Errorf("Check of %v behind %d: got error %d", x.l, x.ahead, e)
		}
	}
}

func TestCheckOfMost(t *testing.T) {
	var l []bad
	for _, kind := range []int{api.DenseL, api.BlockL} {
		for _, x := range []struct{ size, ahead int }{
			{1, api.MaxBelow}, {api.MaxBelow, 1}, {1 << 10, 1 << 10}, {3, api.MaxBelow / 3}, {maxSize, 0},
		} {
			l = append(l, bad{l: api.Level{Kind: kind, Size: x.size}, ahead: x.ahead})
		}
	}
	crd := make([]int, api.MaxCrd)
	after := make([]int, api.MaxBelow+1)
	for k := range after[1:] {
		after[k+1] = min(k/16+1, api.MaxCrd)
	}
	l = append(l,
		bad{l: api.Level{Kind: api.DenseL}, ahead: api.MaxBelow},
		bad{l: api.Level{Kind: api.PackedL, Size: maxSize, Pos: make([]int, api.MaxBelow+1)}, ahead: api.MaxBelow},
		bad{l: api.Level{Kind: api.PackedL, Size: api.MaxCrd, Pos: []int{0, api.MaxCrd}, Crd: rising(api.MaxCrd)}, ahead: 1},
		bad{l: api.Level{Kind: api.PackedL, Size: 1, Pos: after, Crd: crd}, ahead: api.MaxBelow},
		bad{l: api.Level{Kind: api.LooseL, Size: 1, Pos: []int{0, api.MaxCrd}, Crd: crd}, ahead: 1},
		bad{l: api.Level{Kind: api.SingleL, Size: 1, Crd: crd}, ahead: api.MaxCrd})
	for _, x := range l {
		if e := level.Check(x.l, x.ahead); e != api.OK {
			t.Errorf("Check of %v behind %d: got error %d", brief(x.l), x.ahead, e)
		}
	}
}

func TestCheckErrors(t *testing.T) {
	for _, x := range badLevels() {
		if e := level.Check(x.l, x.ahead); e != x.e {
			t.Errorf("Check of %v behind %d: got error %d, want %d", brief(x.l), x.ahead, e, x.e)
		}
	}
	// One that may be behind so many may not be behind more, or less, but for those of each place.
	for _, s := range samples() {
		for _, ahead := range []int{len(s.groups) - 1, len(s.groups) + 1} {
			want := api.ErrArg
			if whole(s.l.Kind) && ahead >= 0 {
				want = api.OK
			}
			if e := level.Check(s.l, ahead); e != want {
				t.Errorf("Check of %v behind %d: got error %d, want %d", s.l, ahead, e, want)
			}
		}
	}
}

// digits are those of n, from the last one on, each less by one.
func digits(n, base, many int) []int {
	l := make([]int, many)
	for k := range l {
		l[k] = n%base - 1
		n /= base
	}
	return l
}

func TestCheckOfAllPlaces(t *testing.T) {
	const size = 3
	for n := range 5 * 5 * 5 * 5 {
		crd := digits(n, size+2, 4)
		off := slices.Min(crd) < 0 || slices.Max(crd) >= size
		for cut := range 5 {
			a, b := crd[:cut], crd[cut:]
			for _, kind := range []int{api.PackedL, api.LooseL} {
				want := api.OK
				if off {
					want = api.ErrRange
				} else if !goes(kind, a) || !goes(kind, b) {
					want = api.ErrArg
				}
				l := api.Level{Kind: kind, Size: size, Pos: []int{0, cut, 4}, Crd: crd}
				if e := level.Check(l, 2); e != want {
					t.Errorf("Check of %v: got error %d, want %d", l, e, want)
				}
			}
		}
		want := api.OK
		if off {
			want = api.ErrRange
		}
		if e := level.Check(api.Level{Kind: api.SingleL, Size: size, Crd: crd}, 4); e != want {
			t.Errorf("Check of single ones %v: got error %d, want %d", crd, e, want)
		}
	}
}

// goes tells whether places rise, or stay where they may.
func goes(kind int, l []int) bool {
	for k := range l {
		for _, ahead := range l[:k] {
			if ahead > l[k] || ahead == l[k] && kind == api.PackedL {
				return false
			}
		}
	}
	return true
}

func TestCheckOfAllPos(t *testing.T) {
	crd := []int{0, 1, 2}
	for n := range 6 * 6 * 6 * 6 {
		pos := digits(n, 6, 4)
		want := api.ErrArg
		if pos[0] == 0 && pos[0] <= pos[1] && pos[1] <= pos[2] && pos[2] <= pos[3] && pos[3] == 3 {
			want = api.OK
		}
		for _, kind := range []int{api.PackedL, api.LooseL} {
			if e := level.Check(api.Level{Kind: kind, Size: 3, Pos: pos, Crd: crd}, 3); e != want {
				t.Errorf("Check of Pos %v of kind %d: got error %d, want %d", pos, kind, e, want)
			}
		}
	}
}

func TestWhole(t *testing.T) {
	for _, kind := range append([]int{-1, 5, math.MinInt, math.MaxInt}, kinds...) {
		for _, size := range []int{-1, 0, 1, 9, maxSize + 1} {
			if got := level.Whole(api.Level{Kind: kind, Size: size, Pos: []int{0, 1}, Crd: []int{0}}); got != whole(kind) {
				t.Errorf("Whole of kind %d, size %d: got %v", kind, size, got)
			}
		}
	}
}

func TestSame(t *testing.T) {
	l := []api.Level{
		{}, {Size: 1}, {Kind: api.BlockL}, {Kind: api.BlockL, Size: 1}, {Kind: 1}, {Kind: 1, Size: 1},
		{Kind: 1, Pos: []int{0}}, {Kind: 1, Pos: []int{1}}, {Kind: 1, Pos: []int{0, 0}}, {Kind: 1, Crd: []int{0}}, {Kind: 1, Crd: []int{0, 0}}, {Kind: 1, Crd: []int{2}},
		{Kind: 1, Size: 4, Pos: []int{0, 2}, Crd: []int{1, 3}}, {Kind: 2, Size: 4, Pos: []int{0, 2}, Crd: []int{1, 3}}, {Kind: 1, Size: 5, Pos: []int{0, 2}, Crd: []int{1, 3}},
		{Kind: 1, Size: 4, Pos: []int{0, 2}, Crd: []int{1, 2}}, {Kind: 1, Size: 4, Pos: []int{0, 2}, Crd: []int{0, 3}}, {Kind: 1, Size: 4, Pos: []int{0, 1}, Crd: []int{1, 3}},
		{Kind: 1, Size: 4, Pos: []int{1, 2}, Crd: []int{1, 3}}, {Kind: 1, Size: 4, Pos: []int{0, 2, 2}, Crd: []int{1, 3}}, {Kind: 1, Size: 4, Pos: []int{0, 2}, Crd: []int{1, 3, 3}},
		{Kind: 3, Size: 4, Crd: []int{1, 3}}, {Kind: 3, Size: 4, Pos: []int{1, 3}}, {Kind: 4, Size: 3}, {Kind: 3, Size: 4},
		// Nor need they be such that may be.
		{Kind: -1, Size: -1}, {Kind: math.MaxInt, Size: math.MinInt}, {Kind: 1, Size: 1, Pos: []int{-1, math.MaxInt}},
	}
	for i, a := range l {
		for j, b := range l {
			b.Pos, b.Crd = slices.Clone(b.Pos), slices.Clone(b.Crd)
			if got := level.Same(a, b); got != (i == j) {
				t.Errorf("Same of %v and %v: got %v", a, b, got)
			}
		}
	}
	if !level.Same(api.Level{Pos: []int{}}, api.Level{Crd: []int{}}) {
		t.Error("Same of no numbers, nil and empty: got no")
	}
}

// P4.2

func TestBelow(t *testing.T) {
	for _, s := range samples() {
		want := 0
		for _, g := range s.groups {
			want += len(g)
		}
		if n, e := level.Below(s.l, len(s.groups)); n != want || e != api.OK {
			t.Errorf("Below of %v behind %d: got %d, error %d; want %d", s.l, len(s.groups), n, e, want)
		}
	}
	for _, x := range []struct {
		l           api.Level
		ahead, want int
	}{
		{api.Level{Size: 1 << 10}, 1 << 10, api.MaxBelow},
		{api.Level{Size: maxSize}, 0, 0},
		{api.Level{}, api.MaxBelow, 0},
		{api.Level{Kind: api.BlockL, Size: 1}, api.MaxBelow, api.MaxBelow},
		{api.Level{Kind: api.SingleL, Size: 1, Crd: make([]int, api.MaxCrd)}, api.MaxCrd, api.MaxCrd},
		{api.Level{Kind: api.PackedL, Size: 1, Pos: make([]int, api.MaxBelow+1)}, api.MaxBelow, 0},
	} {
		if n, e := level.Below(x.l, x.ahead); n != x.want || e != api.OK {
			t.Errorf("Below of %v behind %d: got %d, error %d; want %d", brief(x.l), x.ahead, n, e, x.want)
		}
	}
}

func TestChildren(t *testing.T) {
	for _, s := range samples() {
		for p, want := range told(s.groups) {
			if c, e := level.Children(s.l, len(s.groups), p); e != api.OK || !slices.Equal(c, want) {
				t.Errorf("Children of %v behind %d, of %d: got %v, error %d; want %v", s.l, len(s.groups), p, c, e, want)
			}
		}
	}
}

func TestChildrenOfMost(t *testing.T) {
	for _, x := range []struct {
		l        api.Level
		ahead, p int
		n, at    int
		many     int
	}{
		{api.Level{Size: api.MaxBelow}, 1, 0, 0, 0, api.MaxBelow},
		{api.Level{Kind: api.BlockL, Size: 1}, api.MaxBelow, api.MaxBelow - 1, api.MaxBelow - 1, 0, 1},
		{api.Level{Kind: api.BlockL, Size: 1 << 10}, 1 << 10, 1000, 1000 << 10, 0, 1 << 10},
		{api.Level{Kind: api.SingleL, Size: api.MaxCrd, Crd: rising(api.MaxCrd)}, api.MaxCrd, api.MaxCrd - 1, api.MaxCrd - 1, api.MaxCrd - 1, 1},
		{api.Level{Kind: api.PackedL, Size: api.MaxCrd, Pos: []int{0, 0, api.MaxCrd}, Crd: rising(api.MaxCrd)}, 2, 1, 0, 0, api.MaxCrd},
	} {
		c, e := level.Children(x.l, x.ahead, x.p)
		if e != api.OK || len(c) != x.many {
			t.Errorf("Children of %v behind %d: got %d, error %d; want %d", brief(x.l), x.ahead, len(c), e, x.many)
			continue
		}
		for k, child := range c {
			if child != (api.Child{At: x.at + k, N: x.n + k}) {
				t.Fatalf("Children of %v behind %d: got %v at %d", brief(x.l), x.ahead, child, k)
			}
		}
	}
}

// first is where the first child at a place is, of those told.
func first(c []api.Child, at int) (int, bool) {
	k := slices.IndexFunc(c, func(x api.Child) bool { return x.At == at })
	if k < 0 {
		return 0, false
	}
	return c[k].N, true
}

func TestFind(t *testing.T) {
	for _, s := range samples() {
		places := append(rising(min(s.l.Size, 20)+2), -1, -2, math.MinInt, math.MaxInt, maxSize-1, maxSize, maxSize+1, 1<<32)
		for p, c := range told(s.groups) {
			for _, at := range places {
				want, there := first(c, at)
				if n, is, e := level.Find(s.l, len(s.groups), p, at); n != want || is != there || e != api.OK {
					t.Errorf("Find of %v behind %d, of %d at %d: got %d, %v, error %d; want %d, %v", s.l, len(s.groups), p, at, n, is, e, want, there)
				}
			}
		}
	}
}

func TestParent(t *testing.T) {
	for _, s := range samples() {
		for p, c := range told(s.groups) {
			for _, x := range c {
				if q, at, e := level.Parent(s.l, len(s.groups), x.N); q != p || at != x.At || e != api.OK {
					t.Errorf("Parent of %v behind %d, of %d: got %d, %d, error %d; want %d, %d", s.l, len(s.groups), x.N, q, at, e, p, x.At)
				}
			}
		}
	}
	if p, at, e := level.Parent(api.Level{Size: 1 << 10}, 1<<10, api.MaxBelow-1); p != 1<<10-1 || at != 1<<10-1 || e != api.OK {
		t.Errorf("Parent of the last one of most: got %d, %d, error %d", p, at, e)
	}
}

func TestThereIsNone(t *testing.T) {
	for _, s := range samples() {
		ahead := len(s.groups)
		for _, p := range []int{-1, ahead, ahead + 1, math.MinInt, math.MaxInt} {
			if c, e := level.Children(s.l, ahead, p); len(c) != 0 || e != api.ErrNone {
				t.Errorf("Children of %v behind %d, of %d: got %v, error %d", s.l, ahead, p, c, e)
			}
			for _, at := range []int{0, -1, s.l.Size} {
				if n, is, e := level.Find(s.l, ahead, p, at); n != 0 || is || e != api.ErrNone {
					t.Errorf("Find of %v behind %d, of %d: got %d, %v, error %d", s.l, ahead, p, n, is, e)
				}
			}
		}
		below := 0
		for _, g := range s.groups {
			below += len(g)
		}
		for _, n := range []int{-1, below, below + 1, math.MinInt, math.MaxInt} {
			if p, at, e := level.Parent(s.l, ahead, n); p != 0 || at != 0 || e != api.ErrNone {
				t.Errorf("Parent of %v behind %d, of %d: got %d, %d, error %d", s.l, ahead, n, p, at, e)
			}
		}
	}
}

func TestOfWhatMayNotBe(t *testing.T) {
	for _, x := range badLevels() {
		if n, e := level.Below(x.l, x.ahead); n != 0 || e != x.e {
			t.Errorf("Below of %v behind %d: got %d, error %d; want error %d", brief(x.l), x.ahead, n, e, x.e)
		}
		// Check's error is ahead of there being none.
		for _, p := range []int{0, -1, x.ahead, math.MinInt, math.MaxInt} {
			if c, e := level.Children(x.l, x.ahead, p); len(c) != 0 || e != x.e {
				t.Errorf("Children of %v behind %d, of %d: got %d, error %d; want error %d", brief(x.l), x.ahead, p, len(c), e, x.e)
			}
			if n, is, e := level.Find(x.l, x.ahead, p, 0); n != 0 || is || e != x.e {
				t.Errorf("Find of %v behind %d, of %d: got %d, %v, error %d; want error %d", brief(x.l), x.ahead, p, n, is, e, x.e)
			}
			if q, at, e := level.Parent(x.l, x.ahead, p); q != 0 || at != 0 || e != x.e {
				t.Errorf("Parent of %v behind %d, of %d: got %d, %d, error %d; want error %d", brief(x.l), x.ahead, p, q, at, e, x.e)
			}
		}
	}
}

// P4.3

func TestMake(t *testing.T) {
	l, e := level.Make(api.PackedL, 4, []int{1, 3}, nil, []int{0})
	if want := (api.Level{Kind: api.PackedL, Size: 4, Pos: []int{0, 2, 2, 3}, Crd: []int{1, 3, 0}}); e != api.OK || !isSame(l, want) {
		t.Errorf("Make: got %v, error %d; want %v", l, e, want)
	}
	for _, s := range samples() {
		if l, e := level.Make(s.l.Kind, s.l.Size, s.groups...); e != api.OK || !isSame(l, s.l) {
			t.Errorf("Make of kind %d, size %d, of %v: got %v, error %d; want %v", s.l.Kind, s.l.Size, s.groups, l, e, s.l)
		}
	}
	for _, kind := range kinds {
		l, e := level.Make(kind, maxSize)
		if want := laid(kind, maxSize).l; e != api.OK || !isSame(l, want) {
			t.Errorf("Make of kind %d without groups: got %v, error %d; want %v", kind, l, e, want)
		}
	}
}

func TestMakeOfEachPlace(t *testing.T) {
	// Groups say how many are ahead, and nothing else.
	groups := [][]int{nil, {9}, {-1, -1}, {3, 2, 1}, {}, make([]int, api.MaxCrd+1), {math.MinInt}}
	for _, kind := range []int{api.DenseL, api.BlockL} {
		for n := range groups {
			if l, e := level.Make(kind, 3, groups[:n]...); e != api.OK || !isSame(l, api.Level{Kind: kind, Size: 3}) {
				t.Errorf("Make of kind %d of %d groups: got %v, error %d", kind, n, l, e)
			}
		}
		for _, x := range []struct {
			size, ahead int
			e           api.Errno
		}{
			{1 << 10, 1 << 10, api.OK}, {1<<10 + 1, 1 << 10, api.ErrLarge}, {1, api.MaxBelow, api.OK}, {1, api.MaxBelow + 1, api.ErrArg}, {2, api.MaxBelow, api.ErrLarge},
		} {
			if _, e := level.Make(kind, x.size, make([][]int, x.ahead)...); e != x.e {
				t.Errorf("Make of kind %d, size %d, of %d groups: got error %d, want %d", kind, x.size, x.ahead, e, x.e)
			}
		}
	}
}

func TestMakeOfMost(t *testing.T) {
	ones := make([][]int, api.MaxCrd)
	for p := range ones {
		ones[p] = []int{0}
	}
	for _, s := range []sample{
		laid(api.PackedL, api.MaxCrd, rising(api.MaxCrd), nil),
		laid(api.LooseL, 1, make([]int, api.MaxCrd-1), []int{0}),
		laid(api.PackedL, 1, ones...),
		laid(api.LooseL, 1, ones...),
		laid(api.SingleL, 1, ones...),
		laid(api.PackedL, 1, make([][]int, api.MaxBelow)...),
	} {
		if l, e := level.Make(s.l.Kind, s.l.Size, s.groups...); e != api.OK || !isSame(l, s.l) {
			t.Errorf("Make of kind %d of most: got %d numbers, error %d", s.l.Kind, len(l.Crd), e)
		}
	}
}

// made is what groups come to that make no level.
type made struct {
	kind, size int
	groups     [][]int
	e          api.Errno
}

// badGroups make no level, and the error that the chapter names first.
func badGroups() []made {
	over := make([][]int, api.MaxBelow+1)
	var l []made
	for _, kind := range kinds {
		for _, size := range []int{-1, maxSize + 1, math.MinInt, math.MaxInt} {
			l = append(l, made{kind, size, nil, api.ErrArg}, made{kind, size, [][]int{{0}}, api.ErrArg}, made{kind, size, [][]int{make([]int, api.MaxCrd+1)}, api.ErrArg})
		}
		l = append(l, made{kind, 1, over, api.ErrArg})
	}
	for _, kind := range []int{-1, 5, math.MinInt, math.MaxInt} {
		l = append(l, made{kind, 1, nil, api.ErrArg}, made{kind, 1, [][]int{{0}}, api.ErrArg}, made{kind, 1, [][]int{make([]int, api.MaxCrd+1)}, api.ErrArg})
	}
	l = append(l, made{api.BlockL, 0, nil, api.ErrArg}, made{api.BlockL, 0, [][]int{nil}, api.ErrArg})
	for _, kind := range []int{api.PackedL, api.LooseL} {
		l = append(l,
			made{kind, 4, [][]int{{4}}, api.ErrRange},
			made{kind, 4, [][]int{{-1}}, api.ErrRange},
			made{kind, 0, [][]int{{0}}, api.ErrRange},
			made{kind, 4, [][]int{{2, 1}, {4}}, api.ErrRange},
			made{kind, 4, [][]int{{2, 1}}, api.ErrArg},
			made{kind, 4, [][]int{{0, 1}, {3, 0}}, api.ErrArg},
			made{kind, 4, [][]int{make([]int, api.MaxCrd+1)}, api.ErrLarge},
			made{kind, 4, [][]int{rising(api.MaxCrd), {-1}}, api.ErrLarge},
			made{kind, 4, [][]int{{2, 1}, make([]int, api.MaxCrd)}, api.ErrLarge})
	}
	return append(l,
		made{api.PackedL, 4, [][]int{{1, 1}}, api.ErrArg},
		made{api.PackedL, 4, [][]int{{0}, {1}, {2, 2}}, api.ErrArg},
		made{api.SingleL, 4, [][]int{nil}, api.ErrArg},
		made{api.SingleL, 4, [][]int{{0, 1}}, api.ErrArg},
		made{api.SingleL, 4, [][]int{{0}, {}, {1}}, api.ErrArg},
		made{api.SingleL, 4, [][]int{{0}, {1}, {1, 1}}, api.ErrArg},
		made{api.SingleL, 4, [][]int{{4}}, api.ErrRange},
		made{api.SingleL, 4, [][]int{{0}, {-1}}, api.ErrRange},
		// That a group has not just one is told ahead of Check's error.
		made{api.SingleL, 4, [][]int{{4}, nil}, api.ErrArg},
		made{api.SingleL, 4, make([][]int, api.MaxCrd+1), api.ErrArg},
		made{api.SingleL, 1, append(slices.Repeat([][]int{{0}}, api.MaxCrd+1), nil), api.ErrArg},
		made{api.SingleL, 1, slices.Repeat([][]int{{0}}, api.MaxCrd+1), api.ErrLarge},
		made{api.SingleL, 1, slices.Repeat([][]int{{7}}, api.MaxCrd+1), api.ErrLarge})
}

func TestMakeErrors(t *testing.T) {
	for k, x := range badGroups() {
		if l, e := level.Make(x.kind, x.size, x.groups...); !isZero(l) || e != x.e {
			t.Errorf("%d: Make of kind %d, size %d, of %d groups: got %v, error %d; want error %d", k, x.kind, x.size, len(x.groups), brief(l), e, x.e)
		}
	}
}

func TestMakeOfOneGroupManyTimes(t *testing.T) {
	// Joined they would be far more than there is room for.
	groups := slices.Repeat([][]int{make([]int, 1<<20)}, api.MaxBelow)
	for _, kind := range []int{api.PackedL, api.LooseL} {
		if l, e := level.Make(kind, 1, groups...); !isZero(l) || e != api.ErrLarge {
			t.Errorf("Make of kind %d: got %v, error %d", kind, brief(l), e)
		}
	}
	if l, e := level.Make(api.SingleL, 1, groups...); !isZero(l) || e != api.ErrArg {
		t.Errorf("Make of single ones: got %v, error %d", brief(l), e)
	}
}

// P4.4

func TestNumberedOneBehindTheOther(t *testing.T) {
	for _, s := range samples() {
		ahead := len(s.groups)
		n := 0
		for p := range ahead {
			c, e := level.Children(s.l, ahead, p)
			if e != api.OK {
				t.Fatalf("Children of %v: error %d", s.l, e)
			}
			for _, x := range c {
				if x.N != n {
					t.Errorf("Children of %v, of %d: got %v, want number %d", s.l, p, x, n)
				}
				n++
				if q, at, e := level.Parent(s.l, ahead, x.N); q != p || at != x.At || e != api.OK {
					t.Errorf("Parent of %v, of %d: got %d, %d, error %d; want %d, %d", s.l, x.N, q, at, e, p, x.At)
				}
				m, is, e := level.Find(s.l, ahead, p, x.At)
				if k := slices.IndexFunc(c, func(y api.Child) bool { return y.N == m }); !is || e != api.OK || k < 0 || c[k].At != x.At || m > x.N {
					t.Errorf("Find of %v, of %d at %d: got %d, %v, error %d", s.l, p, x.At, m, is, e)
				}
			}
		}
		if below, e := level.Below(s.l, ahead); below != n || e != api.OK {
			t.Errorf("Below of %v behind %d: got %d, error %d; want %d", s.l, ahead, below, e, n)
		}
	}
}

func TestMadeOfItsChildren(t *testing.T) {
	for _, s := range samples() {
		groups := make([][]int, len(s.groups))
		for p := range groups {
			c, e := level.Children(s.l, len(groups), p)
			if e != api.OK {
				t.Fatalf("Children of %v: error %d", s.l, e)
			}
			for _, x := range c {
				groups[p] = append(groups[p], x.At)
			}
		}
		if l, e := level.Make(s.l.Kind, s.l.Size, groups...); e != api.OK || !level.Same(l, s.l) {
			t.Errorf("Make of the children of %v: got %v, error %d", s.l, l, e)
		}
	}
}

// R2: what is handed in is left as it is, and what is told is new.

// roomy is a list with room behind it, that must not be written to.
func roomy(l ...int) []int {
	return append(slices.Clone(l), 77, 78)[:len(l)]
}

// behind are several lists' numbers, with what stands in the room behind each of them.
func behind(l ...[]int) []int {
	var r []int
	for _, x := range l {
		r = append(r, x[:len(x)+2]...)
	}
	return r
}

func TestNothingIsChanged(t *testing.T) {
	for _, s := range []sample{
		laid(api.PackedL, 4, []int{1, 3}, nil, []int{0}),
		laid(api.LooseL, 4, []int{1, 1, 2}, nil, []int{0}),
		laid(api.SingleL, 4, []int{3}, []int{0}, []int{2}),
	} {
		l := api.Level{Kind: s.l.Kind, Size: s.l.Size, Pos: roomy(s.l.Pos...), Crd: roomy(s.l.Crd...)}
		want := behind(l.Pos, l.Crd)
		level.Check(l, 3)
		level.Below(l, 3)
		level.Whole(l)
		level.Same(l, l)
		level.Find(l, 3, 0, 1)
		level.Parent(l, 3, 1)
		c, e := level.Children(l, 3, 0)
		if e != api.OK || !slices.Equal(behind(l.Pos, l.Crd), want) {
			t.Fatalf("%v is changed, error %d", s.l, e)
		}
		for k := range c[:cap(c)] {
			c[:cap(c)][k] = api.Child{At: -9, N: -9}
		}
		if !slices.Equal(behind(l.Pos, l.Crd), want) {
			t.Errorf("%v is changed by writing into its children", s.l)
		}
	}
}

func TestMadeIsNew(t *testing.T) {
	for _, x := range []sample{
		laid(api.PackedL, 4, []int{1, 3}, nil, []int{0}),
		laid(api.PackedL, 4, []int{0, 1, 2, 3}),
		laid(api.LooseL, 4, nil, []int{1, 1, 2}),
		laid(api.SingleL, 4, []int{3}, []int{0}),
		laid(api.SingleL, 4, []int{3}),
	} {
		groups := make([][]int, len(x.groups))
		for p := range groups {
			groups[p] = roomy(x.groups[p]...)
		}
		want := behind(groups...)
		l, e := level.Make(x.l.Kind, x.l.Size, groups...)
		if e != api.OK || !slices.Equal(behind(groups...), want) {
			t.Fatalf("Make changed %v, error %d", x.groups, e)
		}
		for _, g := range groups {
			for k := range g[:len(g)+2] {
				g[:len(g)+2][k] = -9
			}
		}
		if !isSame(l, x.l) {
			t.Errorf("Make of %v, written to: got %v", x.groups, l)
		}
		for p := range groups {
			copy(groups[p], x.groups[p])
		}
		fill(l.Pos, -8)
		fill(l.Crd, -7)
		for _, at := range l.Pos {
			if at != -8 {
				t.Errorf("Make of %v: Pos and Crd share memory", x.groups)
			}
		}
		for p := range groups {
			if !slices.Equal(groups[p], x.groups[p]) {
				t.Errorf("Make of %v: groups are changed by writing into what is told", x.groups)
			}
		}
		// Nor does what was told before count, written to as it is.
		if again, e := level.Make(x.l.Kind, x.l.Size, groups...); e != api.OK || !isSame(again, x.l) {
			t.Errorf("Make of %v, asked once more: got %v, error %d", x.groups, again, e)
		}
	}
}

// fill writes into a list, and into what is behind it.
func fill(l []int, n int) {
	l = l[:cap(l)]
	for k := range l {
		l[k] = n
	}
}
