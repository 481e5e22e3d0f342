package pack_test

import (
	"math"
	"slices"
	"testing"

	"purfle/api"
	"purfle/box"
	"purfle/coo"
	"purfle/level"
	"purfle/pack"
	"purfle/store"
)

// maxSize is how many places a level has at the most.
const maxSize = 1 << 31

func dense(mode int) api.Spec       { return api.Spec{Kind: api.DenseL, Mode: mode} }
func packed(mode int) api.Spec      { return api.Spec{Kind: api.PackedL, Mode: mode} }
func loose(mode int) api.Spec       { return api.Spec{Kind: api.LooseL, Mode: mode} }
func single(mode int) api.Spec      { return api.Spec{Kind: api.SingleL, Mode: mode} }
func block(mode, size int) api.Spec { return api.Spec{Kind: api.BlockL, Mode: mode, Size: size} }

func form(f ...api.Spec) []api.Spec { return f }

// The forms of matrices, told by hand.

func csr() []api.Spec  { return form(dense(0), packed(1)) }
func csc() []api.Spec  { return form(dense(1), packed(0)) }
func dcsr() []api.Spec { return form(packed(0), packed(1)) }
func dcsc() []api.Spec { return form(packed(1), packed(0)) }
func list() []api.Spec { return form(loose(0), single(1)) }
func bsr(size int) []api.Spec {
	return form(dense(0), packed(1), block(0, size), block(1, size))
}

// of is a list of a matrix: of each entry its place and its number.
func of(rows, columns int, l ...[3]int) api.Coo {
	x := api.Coo{Shape: []int{rows, columns}}
	for _, e := range l {
		x.E = append(x.E, api.Entry{C: []int{e[0], e[1]}, V: int64(e[2])})
	}
	return x
}

// matrix is of 4 by 6, in no order, with a place that stands twice, one whose numbers are 0 in all, and an entry of 0: 4 and 3 at 0, 0 and 0, 1; 1 at 0, 4; 5 at 3, 1; 6 at 3, 5.
func matrix() api.Coo {
	return of(4, 6, [3]int{3, 1, 7}, [3]int{0, 4, 1}, [3]int{1, 3, 8}, [3]int{3, 1, -2}, [3]int{0, 0, 4}, [3]int{2, 2, 0}, [3]int{3, 5, 6}, [3]int{1, 3, -8}, [3]int{0, 1, 3})
}

// counted tells numbers from 0 on that look like no order, below a bound.
func counted(salt int) func(below int) int {
	s := uint64(salt)
	return func(below int) int {
		s = s*6364136223846793005 + 1442695040888963407
		return int(s>>33) % below
	}
}

// mixed is a list of n entries, if there are cells, at places that come in no order, some more than once, with numbers from -2 to 2, and some that are told apart.
func mixed(salt, n int, shape []int) api.Coo {
	x := api.Coo{Shape: slices.Clone(shape)}
	cells, _ := box.Cells(shape...)
	if cells == 0 {
		return x
	}
	next := counted(salt)
	for range n {
		c, _ := box.Coord(shape, next(cells))
		v := int64(next(5) - 2)
		if next(8) == 0 {
			v = int64(next(math.MaxInt)) * math.MaxInt32
		}
		x.E = append(x.E, api.Entry{C: c, V: v})
	}
	return x
}

// formsOf are all forms of a shape whose blocks are of the sizes named.
func formsOf(shape []int, sizes ...int) [][]api.Spec {
	var of []api.Spec
	for mode := range shape {
		of = append(of, dense(mode), packed(mode), loose(mode), single(mode))
		for _, size := range sizes {
			of = append(of, block(mode, size))
		}
	}
	var l [][]api.Spec
	var grow func(f []api.Spec)
	grow = func(f []api.Spec) {
		if store.Form(shape, f...) == api.OK {
			l = append(l, f)
		}
		for _, s := range of {
			if mayGrow(f, s) {
				grow(append(slices.Clone(f), s))
			}
		}
	}
	grow(nil)
	return l
}

// mayGrow tells whether a form may be that begins with f and s: not all that it lets by is one.
func mayGrow(f []api.Spec, s api.Spec) bool {
	listed := len(f) > 0 && (f[len(f)-1].Kind == api.LooseL || f[len(f)-1].Kind == api.SingleL)
	if listed != (s.Kind == api.SingleL) {
		return false
	}
	had := 0
	for _, b := range f {
		if b.Mode == s.Mode && (b.Kind == api.BlockL) == (s.Kind == api.BlockL) {
			return false
		}
		if b.Mode == s.Mode {
			had++
		}
	}
	return s.Kind != api.BlockL || had == 1
}

type sample struct {
	x api.Coo
	f []api.Spec
}

// samples are lists of all ranks, from without entries to with one at each place, each with a form: all forms of small shapes, and many of greater ones.
func samples() []sample {
	var l []sample
	for salt, s := range []struct {
		shape, sizes []int
		each         int
	}{
		{nil, nil, 1}, {[]int{0}, []int{1, 4}, 1}, {[]int{1}, []int{1}, 1}, {[]int{6}, []int{1, 2, 3, 6}, 1},
		{[]int{2, 3}, []int{1}, 1}, {[]int{4, 6}, []int{2}, 1}, {[]int{0, 4}, []int{2}, 2}, {[]int{4, 0}, []int{2}, 2},
		{[]int{2, 3, 4}, []int{2}, 2}, {[]int{4, 2, 4}, []int{2}, 23}, {[]int{3, 0, 2}, nil, 5},
		{[]int{2, 3, 2, 3}, nil, 31}, {[]int{3, 1, 5, 2}, []int{5}, 151},
	} {
		for k, f := range formsOf(s.shape, s.sizes...) {
			if k%s.each == 0 {
				for _, n := range []int{0, 1, 9, 60} {
					l = append(l, sample{mixed(1000*salt+k+n, n, s.shape), f})
				}
			}
		}
	}
	return l
}

// sums are a list's numbers by their places, summed.
func sums(x api.Coo) map[[4]int]int64 {
	m := map[[4]int]int64{}
	for _, e := range x.E {
		m[key(e.C)] += e.V
	}
	return m
}

// key is a place that can be held against another one.
func key(c []int) [4]int {
	var k [4]int
	copy(k[:], c)
	return k
}

// plain are the plain entries of a list, by going through its sums from the first place on.
func plain(x api.Coo) []api.Entry {
	var l []api.Entry
	for at, v := range sums(x) {
		if v != 0 {
			l = append(l, api.Entry{C: slices.Clone(at[:len(x.Shape)]), V: v})
		}
	}
	slices.SortFunc(l, func(a, b api.Entry) int { return slices.Compare(a.C, b.C) })
	return l
}

// one is an entry whose place is that of each level.
type one struct {
	at []int
	v  int64
}

// ones are entries with their levels' places, put in order by these.
func ones(l []api.Entry, f []api.Spec) []one {
	var m []one
	for _, e := range l {
		x := one{v: e.V}
		for k, s := range f {
			at := e.C[s.Mode]
			for _, b := range f[k+1:] {
				if b.Mode == s.Mode {
					at /= b.Size
				}
			}
			if s.Kind == api.BlockL {
				at %= s.Size
			}
			x.at = append(x.at, at)
		}
		m = append(m, x)
	}
	slices.SortFunc(m, func(a, b one) int { return slices.Compare(a.at, b.at) })
	return m
}

// laid are entries of one place each, put into a form by the chapter's words.
func laid(t *testing.T, shape []int, l []api.Entry, f []api.Spec) api.Tensor {
	t.Helper()
	sizes, e := store.Sizes(shape, f...)
	if e != api.OK {
		t.Fatalf("Sizes of %v, %v: error %d", shape, f, e)
	}
	x := api.Tensor{Shape: slices.Clone(shape), F: slices.Clone(f)}
	ahead := [][]one{ones(l, f)}
	for k, s := range f {
		var groups [][]int
		var below [][]one
		for _, own := range ahead {
			places, has := under(own, k, s.Kind, sizes[k])
			groups, below = append(groups, places), append(below, has...)
		}
		m, e := level.Make(s.Kind, sizes[k], groups...)
		if e != api.OK {
			t.Fatalf("Make of kind %d, size %d, of %v: error %d", s.Kind, sizes[k], groups, e)
		}
		x.L, ahead = append(x.L, m), below
	}
	for _, own := range ahead {
		if len(own) > 1 {
			t.Fatalf("%v, in %v: %d entries are at one place", l, f, len(own))
		}
		v := int64(0)
		for _, e := range own {
			v = e.v
		}
		x.V = append(x.V, v)
	}
	return x
}

// under are the places of the children of one that has these entries, and which of them each child has.
func under(own []one, k, kind, size int) ([]int, [][]one) {
	var places []int
	var has [][]one
	if kind == api.LooseL || kind == api.SingleL {
		for _, e := range own {
			places, has = append(places, e.at[k]), append(has, []one{e})
		}
		return places, has
	}
	for at := range size {
		var m []one
		for _, e := range own {
			if e.at[k] == at {
				m = append(m, e)
			}
		}
		if kind != api.PackedL || len(m) > 0 {
			places, has = append(places, at), append(has, m)
		}
	}
	return places, has
}

func sameEntries(a, b []api.Entry) bool {
	return slices.EqualFunc(a, b, func(x, y api.Entry) bool { return x.V == y.V && slices.Equal(x.C, y.C) })
}

// isZero tells whether nothing is told of a tensor.
func isZero(t api.Tensor) bool {
	return len(t.Shape) == 0 && len(t.F) == 0 && len(t.L) == 0 && len(t.V) == 0
}

// brief is as much of a list as is worth telling.
func brief(x api.Coo) api.Coo {
	return api.Coo{Shape: x.Shape[:min(len(x.Shape), 8)], E: x.E[:min(len(x.E), 8)]}
}

// few are the first levels of a form.
func few(f []api.Spec) []api.Spec { return f[:min(len(f), 8)] }

// P6.1

type stored struct {
	what string
	x    api.Coo
	t    api.Tensor
}

// byHand are lists, and what they are packed as, told by hand.
func byHand() []stored {
	d := func(size int) api.Level { return api.Level{Kind: api.DenseL, Size: size} }
	b := func(size int) api.Level { return api.Level{Kind: api.BlockL, Size: size} }
	p := func(size int, pos, crd []int) api.Level {
		return api.Level{Kind: api.PackedL, Size: size, Pos: pos, Crd: crd}
	}
	l := func(size int, pos, crd []int) api.Level {
		return api.Level{Kind: api.LooseL, Size: size, Pos: pos, Crd: crd}
	}
	s := func(size int, crd ...int) api.Level { return api.Level{Kind: api.SingleL, Size: size, Crd: crd} }
	is := func(what string, x api.Coo, f []api.Spec, v []int64, levels ...api.Level) stored {
		return stored{what, x, api.Tensor{Shape: x.Shape, F: f, L: levels, V: v}}
	}
	none := []int(nil)
	m := matrix()
	cube := api.Coo{Shape: []int{2, 2, 3}, E: []api.Entry{{C: []int{1, 1, 0}, V: 8}, {C: []int{1, 0, 2}, V: 7}, {C: []int{1, 1, 2}, V: 9}}}
	return []stored{
		is("the chapter's", of(2, 3, [3]int{0, 2, 5}), csr(), []int64{5}, d(2), p(3, []int{0, 1, 1}, []int{2})),
		is("csr", m, csr(), []int64{4, 3, 1, 5, 6}, d(4), p(6, []int{0, 3, 3, 3, 5}, []int{0, 1, 4, 1, 5})),
		is("csc", m, csc(), []int64{4, 3, 5, 1, 6}, d(6), p(4, []int{0, 1, 3, 3, 3, 4, 5}, []int{0, 0, 3, 0, 3})),
		is("dcsr", m, dcsr(), []int64{4, 3, 1, 5, 6}, p(4, []int{0, 2}, []int{0, 3}), p(6, []int{0, 3, 5}, []int{0, 1, 4, 1, 5})),
		is("dcsc", m, dcsc(), []int64{4, 3, 5, 1, 6}, p(6, []int{0, 4}, []int{0, 1, 4, 5}), p(4, []int{0, 1, 3, 4, 5}, []int{0, 0, 3, 0, 3})),
		is("coo", m, list(), []int64{4, 3, 1, 5, 6}, l(4, []int{0, 5}, []int{0, 0, 0, 3, 3}), s(6, 0, 1, 4, 1, 5)),
		is("columns as a list", m, form(loose(1), single(0)), []int64{4, 3, 5, 1, 6}, l(6, []int{0, 5}, []int{0, 1, 1, 4, 5}), s(4, 0, 0, 3, 0, 3)),
		is("lists of rows", m, form(dense(0), loose(1)), []int64{4, 3, 1, 5, 6}, d(4), l(6, []int{0, 3, 3, 3, 5}, []int{0, 1, 4, 1, 5})),
		is("rows that are there", m, form(packed(0), dense(1)), []int64{4, 3, 0, 0, 1, 0, 0, 5, 0, 0, 0, 6}, p(4, []int{0, 2}, []int{0, 3}), d(6)),
		is("dense", m, form(dense(0), dense(1)), []int64{4, 3, 0, 0, 1, 0, 0, 0, 0, 0, 0, 0, 0, 0, 0, 0, 0, 0, 0, 5, 0, 0, 0, 6}, d(4), d(6)),
		is("bsr", m, bsr(2), []int64{4, 3, 0, 0, 1, 0, 0, 0, 0, 0, 0, 5, 0, 0, 0, 6}, d(2), p(3, []int{0, 2, 4}, []int{0, 2, 0, 2}), b(2), b(2)),
		is("blocks of 2 by 3, by columns", m, form(packed(1), dense(0), block(1, 3), block(0, 2)), []int64{4, 0, 3, 0, 0, 0, 0, 0, 0, 5, 0, 0, 0, 0, 1, 0, 0, 0, 0, 0, 0, 0, 0, 6}, p(2, []int{0, 2}, []int{0, 1}), d(2), b(3), b(2)),
		is("the last mode of cells at one place", cube, form(packed(0), packed(1), packed(2)), []int64{7, 8, 9}, p(2, []int{0, 1}, []int{1}), p(2, []int{0, 2}, []int{0, 1}), p(3, []int{0, 1, 3}, []int{2, 0, 2})),
		is("a list of three modes", cube, form(loose(2), single(0), single(1)), []int64{8, 7, 9}, l(3, []int{0, 3}, []int{0, 2, 2}), s(2, 1, 1, 1), s(2, 1, 0, 1)),
		is("rows of lists", cube, form(dense(0), loose(1), single(2)), []int64{7, 8, 9}, d(2), l(2, []int{0, 0, 3}, []int{0, 1, 1}), s(3, 2, 0, 2)),
		is("a number", api.Coo{E: []api.Entry{{V: 4}, {V: 5}}}, nil, []int64{9}),
		is("no number", api.Coo{}, nil, []int64{0}),
		is("numbers that are 0 in all", api.Coo{E: []api.Entry{{V: math.MinInt64}, {V: math.MinInt64}}}, nil, []int64{0}),
		is("csr without entries", of(2, 3), csr(), nil, d(2), p(3, []int{0, 0, 0}, none)),
		is("csr of entries that are none", of(2, 3, [3]int{0, 1, 5}, [3]int{1, 1, 0}, [3]int{0, 1, -5}), csr(), nil, d(2), p(3, []int{0, 0, 0}, none)),
		is("dcsr without entries", of(2, 3), dcsr(), nil, p(2, []int{0, 0}, none), p(3, []int{0}, none)),
		is("coo without entries", of(2, 3), list(), nil, l(2, []int{0, 0}, none), s(3)),
		is("dense without entries", of(1, 2), form(dense(0), dense(1)), []int64{0, 0}, d(1), d(2)),
		is("no rows", of(0, 3), csr(), nil, d(0), p(3, []int{0}, none)),
		is("no columns", of(2, 0), form(dense(0), dense(1)), nil, d(2), d(0)),
	}
}

func TestPackByHand(t *testing.T) {
	for _, c := range byHand() {
		if got, e := pack.Pack(c.x, c.t.F...); e != api.OK || !store.Same(got, c.t) {
			t.Errorf("%s: got %v, error %d; want %v", c.what, got, e, c.t)
		}
	}
}

func TestPackOfAllForms(t *testing.T) {
	for _, s := range samples() {
		want := laid(t, s.x.Shape, plain(s.x), s.f)
		if got, e := pack.Pack(s.x, s.f...); e != api.OK || !store.Same(got, want) {
			t.Errorf("Pack of %v in %v: got %v, error %d; want %v", s.x, s.f, got, e, want)
		}
		var counts []int
		ahead := 1
		for _, l := range want.L {
			ahead, _ = level.Below(l, ahead)
			counts = append(counts, ahead)
		}
		if got, e := pack.Room(s.x, s.f...); e != api.OK || !slices.Equal(got, counts) {
			t.Errorf("Room of %v in %v: got %v, error %d; want %v", s.x, s.f, got, e, counts)
		}
	}
}

type bad struct {
	x api.Coo
	f []api.Spec
	e api.Errno
}

// bads are lists that can't be packed, and the error that the chapter names first.
func bads() []bad {
	many := slices.Repeat([]api.Entry{{C: []int{0, 0}, V: 1}}, api.MaxList+1)
	off := []api.Entry{{C: []int{0, 6}}}
	short := []api.Entry{{C: []int{0}, V: 1}}
	l := []bad{
		{api.Coo{Shape: []int{-1}}, form(dense(0)), api.ErrArg},
		{api.Coo{Shape: []int{-1, 2}, E: many}, nil, api.ErrArg},
		{api.Coo{Shape: []int{1, 1, 1, 1, 1}}, nil, api.ErrArg},
		{api.Coo{Shape: []int{1 << 31, 1 << 31}, E: off}, nil, api.ErrLarge},
		// The list's error is ahead of the form's.
		{api.Coo{Shape: []int{4, 6}, E: many}, csr(), api.ErrLarge},
		{api.Coo{Shape: []int{4, 6}, E: many}, nil, api.ErrLarge},
		{api.Coo{Shape: []int{4, 6}, E: off}, csr(), api.ErrRange},
		{api.Coo{Shape: []int{4, 6}, E: off}, form(dense(0)), api.ErrRange},
		{api.Coo{Shape: []int{4, 6}, E: short}, form(dense(0)), api.ErrRange},
		{api.Coo{Shape: []int{maxSize + 1}, E: []api.Entry{{C: []int{-1}}}}, form(dense(0)), api.ErrRange},
		{api.Coo{Shape: []int{0}, E: []api.Entry{{C: []int{0}}}}, form(dense(0)), api.ErrRange},
		// The form's is ahead of there being too many below.
		{api.Coo{Shape: []int{maxSize + 1}}, form(dense(0), dense(0)), api.ErrShape},
		{api.Coo{Shape: []int{maxSize, 2}}, form(dense(0)), api.ErrShape},
		{api.Coo{Shape: []int{maxSize + 1}}, form(packed(0)), api.ErrLarge},
		{api.Coo{Shape: []int{0}}, form(packed(0), block(0, maxSize+1)), api.ErrLarge},
		{api.Coo{}, form(dense(0)), api.ErrShape},
		{api.Coo{E: []api.Entry{{V: 1}}}, form(block(0, 1)), api.ErrShape},
	}
	for _, f := range [][]api.Spec{
		nil, form(dense(0)), form(dense(1)), form(dense(0), dense(0)), form(dense(0), dense(1), dense(1)), form(dense(0), dense(2)), form(dense(-1), dense(1)),
		form(dense(0), single(1)), form(single(0), single(1)), form(packed(0), single(1)), form(loose(0), dense(1)), form(loose(0), packed(1)), form(loose(0), loose(1)),
		form(loose(0), single(1), block(1, 2)), form(block(0, 2), dense(0), dense(1)), form(dense(0), dense(1), block(0, 3)), form(dense(0), dense(1), block(1, 0)),
		form(dense(0), dense(1), block(1, -2)), form(dense(0), dense(1), block(0, 2), block(0, 2)), form(api.Spec{Kind: api.DenseL, Size: 4}, dense(1)),
		form(api.Spec{Kind: 5}, dense(1)), form(api.Spec{Kind: -1}, dense(1)), form(dense(math.MinInt), dense(math.MaxInt)), slices.Repeat(csr(), 1000),
	} {
		l = append(l, bad{matrix(), f, api.ErrShape})
	}
	return append(l, tooMany()...)
}

// tooMany are lists whose levels would have more below than there may be.
func tooMany() []bad {
	l := []bad{
		{api.Coo{Shape: []int{api.MaxBelow + 1}}, form(dense(0)), api.ErrLarge},
		{api.Coo{Shape: []int{maxSize}}, form(dense(0)), api.ErrLarge},
		{of(1<<10, 1<<10+1), form(dense(0), dense(1)), api.ErrLarge},
		{of(1<<10, 1<<10+1), form(dense(1), dense(0)), api.ErrLarge},
		{of(1<<20, 1<<20), form(dense(0), dense(1)), api.ErrLarge},
		{of(maxSize, 1<<30), form(dense(0), packed(1)), api.ErrLarge},
		{of(2, api.MaxBelow/2+1), form(dense(0), dense(1)), api.ErrLarge},
		{api.Coo{Shape: []int{2 * api.MaxBelow}}, form(dense(0), block(0, 2)), api.ErrLarge},
		{api.Coo{Shape: []int{1 << 40}}, form(dense(0), block(0, maxSize)), api.ErrLarge},
		// How many a level has below counts, be there none behind it.
		{of(maxSize, 0), form(dense(0), dense(1)), api.ErrLarge},
		{of(0, api.MaxBelow+1), form(dense(1), dense(0)), api.ErrLarge},
		{of(0, api.MaxBelow+1), form(dense(1), packed(0)), api.ErrLarge},
		// Of two rows each has too many.
		{of(4, api.MaxBelow/2+1, [3]int{0, 0, 1}, [3]int{3, 1, 1}), form(packed(0), dense(1)), api.ErrLarge},
		{of(4, api.MaxBelow+2, [3]int{3, 1, 1}), form(packed(0), packed(1), block(1, api.MaxBelow/2+1), block(0, 4)), api.ErrLarge},
	}
	long := api.Coo{Shape: []int{api.MaxList, 17}}
	for n := range api.MaxList {
		long.E = append(long.E, api.Entry{C: []int{n, n % 17}, V: 1})
	}
	return append(l, bad{long, form(packed(0), dense(1)), api.ErrLarge})
}

func TestPackErrors(t *testing.T) {
	for _, b := range bads() {
		if got, e := pack.Pack(b.x, b.f...); e != b.e || !isZero(got) {
			t.Errorf("Pack of %v in %v: got %d numbers, error %d, want %d", brief(b.x), few(b.f), len(got.V), e, b.e)
		}
		if got, e := pack.Room(b.x, b.f...); e != b.e || len(got) != 0 {
			t.Errorf("Room of %v in %v: got %v, error %d, want %d", brief(b.x), few(b.f), got, e, b.e)
		}
	}
}

// most are lists with as many entries, and places, as there may be, and how many each level has below.
func most() []struct {
	x api.Coo
	f []api.Spec
	n []int
} {
	long, high := api.Coo{Shape: []int{api.MaxList, 16}}, api.Coo{Shape: []int{maxSize, maxSize / 4}}
	for n := range api.MaxList {
		long.E = append(long.E, api.Entry{C: []int{api.MaxList - 1 - n, n % 16}, V: int64(n + 1)})
		high.E = append(high.E, api.Entry{C: []int{maxSize - 1 - n, maxSize/4 - 1 - n/7}, V: int64(n + 1)})
	}
	all, m := api.MaxBelow, api.MaxList
	return []struct {
		x api.Coo
		f []api.Spec
		n []int
	}{
		{long, form(packed(0), dense(1)), []int{m, all}},
		{long, form(dense(0), dense(1)), []int{m, all}},
		{long, form(dense(0), packed(1)), []int{m, m}},
		{long, form(dense(1), packed(0), block(0, 2)), []int{16, m, 2 * m}},
		{long, form(dense(1), loose(0)), []int{16, m}},
		{long, form(loose(0), single(1)), []int{m, m}},
		{long, form(loose(1), single(0)), []int{m, m}},
		{high, form(packed(0), packed(1)), []int{m, m}},
		{high, form(loose(0), single(1)), []int{m, m}},
		{high, form(packed(1), packed(0), block(0, 1<<20)), nil},
		{api.Coo{Shape: []int{all}, E: []api.Entry{{C: []int{all - 1}, V: 3}}}, form(dense(0)), []int{all}},
		{of(1<<10, 1<<10, [3]int{1023, 1023, 7}), form(dense(1), dense(0)), []int{1 << 10, all}},
		{of(all, 3, [3]int{all - 1, 2, 7}), form(dense(0), packed(1)), []int{all, 1}},
		{of(all, 3, [3]int{all - 1, 2, 7}), form(dense(0), loose(1)), []int{all, 1}},
		{of(4*all, 3, [3]int{2*all + 5, 2, 7}), form(packed(0), packed(1), block(0, all)), []int{1, 1, all}},
		{of(0, maxSize), form(dense(0), dense(1)), []int{0, 0}},
		{of(maxSize, 0), form(packed(0), dense(1)), []int{0, 0}},
		{of(0, all), form(dense(1), dense(0)), []int{all, 0}},
		{of(maxSize, maxSize/4), form(packed(1), dense(0)), []int{0, 0}},
	}
}

func TestPackOfMost(t *testing.T) {
	for _, c := range most() {
		got, e := pack.Pack(c.x, c.f...)
		if c.n == nil {
			if e != api.ErrLarge || !isZero(got) {
				t.Errorf("Pack of %v in %v: got %d numbers, error %d", brief(c.x), c.f, len(got.V), e)
			}
			continue
		}
		if n, _ := store.Counts(got); e != api.OK || !slices.Equal(n, c.n) {
			t.Errorf("Pack of %v in %v: got counts %v, error %d; want %v", brief(c.x), c.f, n, e, c.n)
			continue
		}
		if n, e := pack.Room(c.x, c.f...); e != api.OK || !slices.Equal(n, c.n) {
			t.Errorf("Room of %v in %v: got %v, error %d; want %v", brief(c.x), c.f, n, e, c.n)
		}
		// There is room for the list again, though the tensor has more numbers than a list.
		if l, e := pack.List(got); e != api.OK || !sameEntries(l.E, plain(c.x)) {
			t.Errorf("List of %v in %v: got %v, error %d", brief(c.x), c.f, brief(l), e)
		}
		if tight, e := pack.Tight(got); !tight || e != api.OK {
			t.Errorf("Tight of %v in %v: got %v, error %d", brief(c.x), c.f, tight, e)
		}
	}
}

func TestDense(t *testing.T) {
	for _, s := range samples() {
		d, e := coo.Dense(s.x)
		if e != api.OK {
			t.Fatalf("Dense of %v: error %d", s.x, e)
		}
		want := laid(t, s.x.Shape, plain(s.x), s.f)
		if got, e := pack.Dense(d, s.f...); e != api.OK || !store.Same(got, want) {
			t.Errorf("Dense of %v in %v: got %v, error %d; want %v", d, s.f, got, e, want)
		}
	}
	all := api.Dense{Shape: []int{1 << 8, 1 << 8}, V: slices.Repeat([]int64{-1}, api.MaxLaid)}
	if got, e := pack.Dense(all, csc()...); e != api.OK || !slices.Equal(got.V, all.V) || len(got.L[1].Crd) != api.MaxCrd {
		t.Errorf("Dense of as many cells as there may be: got %d numbers, error %d", len(got.V), e)
	}
}

func TestDenseErrors(t *testing.T) {
	laid := func(n int, shape ...int) api.Dense { return api.Dense{Shape: shape, V: make([]int64, n)} }
	for _, c := range []struct {
		d api.Dense
		f []api.Spec
		e api.Errno
	}{
		{laid(0, -1), form(dense(0)), api.ErrArg},
		{laid(1, 1, 1, 1, 1, 1), nil, api.ErrArg},
		{laid(0, 1<<31, 1<<31), nil, api.ErrLarge},
		{laid(api.MaxLaid+1, api.MaxLaid+1), nil, api.ErrLarge},
		{laid(5, 2, 3), form(dense(0)), api.ErrArg},
		{laid(7, 2, 3), csr(), api.ErrArg},
		{laid(0), nil, api.ErrArg},
		{laid(6, 2, 3), form(dense(0)), api.ErrShape},
		{laid(6, 2, 3), bsr(2), api.ErrShape},
		{laid(1), form(dense(0)), api.ErrShape},
		{laid(0, 0, maxSize+1), csr(), api.ErrLarge},
		{laid(0, 0, maxSize), csc(), api.ErrLarge},
	} {
		if got, e := pack.Dense(c.d, c.f...); e != c.e || !isZero(got) {
			t.Errorf("Dense of %v, %d numbers, in %v: got %v, error %d, want %d", c.d.Shape, len(c.d.V), c.f, got, e, c.e)
		}
	}
}

// P6.2

// slack are tensors in all forms with numbers of 0 at places that a list has: what is packed of their lists may have less.
func slack(t *testing.T) []api.Tensor {
	t.Helper()
	var l []api.Tensor
	for _, s := range samples() {
		var all []api.Entry
		for at, v := range sums(s.x) {
			all = append(all, api.Entry{C: slices.Clone(at[:len(s.x.Shape)]), V: v})
		}
		l = append(l, laid(t, s.x.Shape, all, s.f))
	}
	return l
}

// read are a stored tensor's plain entries, by what it has at each place.
func read(t *testing.T, x api.Tensor) []api.Entry {
	t.Helper()
	d, e := store.Dense(x)
	if e != api.OK {
		t.Fatalf("Dense of %v: error %d", x, e)
	}
	l := api.Coo{Shape: d.Shape}
	for n, v := range d.V {
		c, _ := box.Coord(d.Shape, n)
		l.E = append(l.E, api.Entry{C: c, V: v})
	}
	return plain(l)
}

func TestList(t *testing.T) {
	for _, c := range byHand() {
		if got, e := pack.List(c.t); e != api.OK || !slices.Equal(got.Shape, c.x.Shape) || !sameEntries(got.E, plain(c.x)) {
			t.Errorf("%s: List of %v: got %v, error %d", c.what, c.t, got, e)
		}
	}
	for _, x := range slack(t) {
		if got, e := pack.List(x); e != api.OK || !slices.Equal(got.Shape, x.Shape) || !sameEntries(got.E, read(t, x)) {
			t.Errorf("List of %v: got %v, error %d; want %v", x, got, e, read(t, x))
		}
	}
}

// row is a tensor of one dense mode.
func row(v ...int64) api.Tensor {
	return api.Tensor{Shape: []int{len(v)}, F: form(dense(0)), L: []api.Level{{Size: len(v)}}, V: v}
}

// TestListOfMost holds that a tensor may have more numbers than a list, if only those that are not 0 are no more.
func TestListOfMost(t *testing.T) {
	full := row(slices.Repeat([]int64{1, 0}, api.MaxList)...)
	l, e := pack.List(full)
	if e != api.OK || len(l.E) != api.MaxList || !slices.Equal(l.E[api.MaxList-1].C, []int{2*api.MaxList - 2}) {
		t.Errorf("List of as many as there may be: got %d entries, error %d", len(l.E), e)
	}
	if got, e := pack.Again(full, packed(0)); e != api.OK || len(got.V) != api.MaxList {
		t.Errorf("Again of as many as there may be: got %d numbers, error %d", len(got.V), e)
	}
	if got, e := pack.Turn(full, 0); e != api.OK || !store.Same(got, full) {
		t.Errorf("Turn of as many as there may be: got %d numbers, error %d", len(got.V), e)
	}
	if tight, e := pack.Tight(full); !tight || e != api.OK {
		t.Errorf("Tight of as many as there may be: got %v, error %d", tight, e)
	}
	full.V[1] = 1
	if l, e := pack.List(full); e != api.ErrLarge || len(l.Shape) != 0 || len(l.E) != 0 {
		t.Errorf("List of more than there may be: got %d entries, error %d", len(l.E), e)
	}
	if got, e := pack.Again(full, packed(0)); e != api.ErrLarge || !isZero(got) {
		t.Errorf("Again of more than there may be: got %d numbers, error %d", len(got.V), e)
	}
	if got, e := pack.Turn(full, 0); e != api.ErrLarge || !isZero(got) {
		t.Errorf("Turn of more than there may be: got %d numbers, error %d", len(got.V), e)
	}
	// It may be, and no list is packed as it.
	if tight, e := pack.Tight(full); tight || e != api.OK {
		t.Errorf("Tight of more than there may be: got %v, error %d", tight, e)
	}
}

// wrong are tensors that may not be, and store.Check's error.
func wrong() []api.Tensor {
	level := func(kind, size int, pos, crd []int) api.Level {
		return api.Level{Kind: kind, Size: size, Pos: pos, Crd: crd}
	}
	rows := func(l ...api.Level) api.Tensor {
		return api.Tensor{Shape: []int{2, 3}, F: csr(), L: l, V: []int64{5}}
	}
	d, p := level(api.DenseL, 2, nil, nil), level(api.PackedL, 3, []int{0, 1, 1}, []int{2})
	return []api.Tensor{
		{},
		{Shape: []int{-1}, F: form(dense(0)), L: []api.Level{d}},
		{Shape: []int{1 << 62}, F: form(dense(0))},
		{Shape: []int{2, 3}, F: form(dense(0)), L: []api.Level{d}, V: []int64{1, 2}},
		{Shape: []int{2, 3}, F: form(single(0), single(1))},
		{Shape: []int{maxSize + 1}, F: form(dense(0)), L: []api.Level{d}},
		{V: []int64{1, 2}},
		rows(), rows(d), rows(p, d), rows(d, p, d),
		rows(d, level(api.LooseL, 3, p.Pos, p.Crd)),
		rows(d, level(api.PackedL, 4, p.Pos, p.Crd)),
		rows(d, level(api.PackedL, 3, []int{0, 1}, p.Crd)),
		rows(d, level(api.PackedL, 3, p.Pos, []int{3})),
		rows(d, level(api.PackedL, 3, []int{0, 0, 2}, []int{1, 2})),
		rows(d, level(api.PackedL, 3, []int{0, 0, 2}, []int{2, 1})),
		row(make([]int64, api.MaxBelow+1)...),
		{Shape: []int{4}, F: form(loose(0)), L: []api.Level{level(api.LooseL, 4, []int{0, 2}, []int{2, 2})}, V: []int64{1, 2}},
	}
}

func TestOfWhatMayNotBe(t *testing.T) {
	told := map[api.Errno]int{}
	for _, x := range wrong() {
		want := store.Check(x)
		if told[want]++; want == api.OK {
			t.Errorf("%v, %v may be", x.Shape, x.F)
		}
		if l, e := pack.List(x); e != want || len(l.Shape) != 0 || len(l.E) != 0 {
			t.Errorf("List of %v, %v: got %v, error %d, want %d", x.Shape, x.F, l, e, want)
		}
		if tight, e := pack.Tight(x); tight || e != want {
			t.Errorf("Tight of %v, %v: got %v, error %d, want %d", x.Shape, x.F, tight, e, want)
		}
		// The tensor's error is ahead of the form's, and of the order's.
		for _, f := range [][]api.Spec{nil, csr(), form(dense(9))} {
			if got, e := pack.Again(x, f...); e != want || !isZero(got) {
				t.Errorf("Again of %v, %v, in %v: got %v, error %d, want %d", x.Shape, x.F, f, got, e, want)
			}
		}
		for _, order := range [][]int{nil, {1, 0}, {7}} {
			if got, e := pack.Turn(x, order...); e != want || !isZero(got) {
				t.Errorf("Turn of %v, %v, by %v: got %v, error %d, want %d", x.Shape, x.F, order, got, e, want)
			}
		}
	}
	if len(told) != 4 {
		t.Errorf("want ErrArg, ErrLarge, ErrRange and ErrShape, got %v", told)
	}
}

func TestAgain(t *testing.T) {
	all := append(formsOf([]int{4, 6}), bsr(2), form(packed(1), dense(0), block(1, 3), block(0, 4)))
	for _, x := range slack(t) {
		if !slices.Equal(x.Shape, []int{4, 6}) {
			continue
		}
		for k, f := range all {
			if (k+len(x.V))%5 != 0 {
				continue
			}
			want := laid(t, x.Shape, read(t, x), f)
			if got, e := pack.Again(x, f...); e != api.OK || !store.Same(got, want) {
				t.Errorf("Again of %v in %v: got %v, error %d; want %v", x, f, got, e, want)
			}
		}
	}
	for _, c := range byHand() {
		if got, e := pack.Again(c.t, c.t.F...); e != api.OK || !store.Same(got, c.t) {
			t.Errorf("%s: Again of %v: got %v, error %d", c.what, c.t, got, e)
		}
	}
}

func TestAgainErrors(t *testing.T) {
	x, _ := pack.Pack(matrix(), csr()...)
	for _, f := range [][]api.Spec{nil, form(dense(0)), form(dense(0), single(1)), bsr(4), bsr(0), form(loose(0), loose(1))} {
		if got, e := pack.Again(x, f...); e != api.ErrShape || !isZero(got) {
			t.Errorf("Again in %v: got %v, error %d", f, got, e)
		}
	}
	wide, e := pack.Pack(of(api.MaxBelow, 2, [3]int{9, 1, 4}), list()...)
	if e != api.OK {
		t.Fatalf("Pack of a wide one: error %d", e)
	}
	if got, e := pack.Again(wide, form(dense(0), dense(1))...); e != api.ErrLarge || !isZero(got) {
		t.Errorf("Again of a wide one: got %d numbers, error %d", len(got.V), e)
	}
	if got, e := pack.Again(wide, form(dense(1), packed(0))...); e != api.OK || !slices.Equal(got.L[1].Pos, []int{0, 0, 1}) || !slices.Equal(got.L[1].Crd, []int{9}) {
		t.Errorf("Again of a wide one, by columns: got %v, error %d", got, e)
	}
}

// orders are all orders of n modes.
func orders(n int) [][]int {
	if n == 0 {
		return [][]int{nil}
	}
	var l [][]int
	for _, o := range orders(n - 1) {
		for k := range n {
			l = append(l, slices.Insert(slices.Clone(o), k, n-1))
		}
	}
	return l
}

func TestTurnByHand(t *testing.T) {
	cube := api.Coo{Shape: []int{2, 4, 3}, E: []api.Entry{{C: []int{1, 2, 0}, V: 8}, {C: []int{0, 3, 2}, V: 7}, {C: []int{1, 0, 0}, V: 9}}}
	x, e := pack.Pack(cube, packed(1), dense(0), packed(2), block(1, 2))
	if e != api.OK {
		t.Fatalf("Pack: error %d", e)
	}
	// The first mode is the last one now, the second the first, the third the second.
	got, e := pack.Turn(x, 1, 2, 0)
	want := api.Tensor{Shape: []int{4, 3, 2}, F: form(packed(0), dense(2), packed(1), block(0, 2)), L: x.L, V: x.V}
	if e != api.OK || !store.Same(got, want) {
		t.Errorf("Turn of %v: got %v, error %d; want %v", x, got, e, want)
	}
	l, _ := pack.List(got)
	if !sameEntries(l.E, []api.Entry{{C: []int{0, 0, 1}, V: 9}, {C: []int{2, 0, 1}, V: 8}, {C: []int{3, 2, 0}, V: 7}}) {
		t.Errorf("Turn of %v: got the list %v", x, l)
	}
}

func TestTurn(t *testing.T) {
	for _, x := range slack(t) {
		tight := laid(t, x.Shape, read(t, x), x.F)
		for _, order := range append(orders(len(x.Shape)), nil) {
			got, e := pack.Turn(x, order...)
			want := tight
			if len(order) > 0 {
				want.Shape, want.F = make([]int, len(x.Shape)), slices.Clone(x.F)
				for m, from := range order {
					want.Shape[m] = x.Shape[from]
					for k, s := range x.F {
						if s.Mode == from {
							want.F[k].Mode = m
						}
					}
				}
			}
			// The levels stay as they are: only their modes have other numbers.
			if e != api.OK || !store.Same(got, want) {
				t.Fatalf("Turn of %v by %v: got %v, error %d; want %v", x, order, got, e, want)
			}
			l, _ := pack.List(x)
			turned, _ := coo.Turn(l, order...)
			if l, e := pack.List(got); e != api.OK || !sameEntries(l.E, plain(turned)) {
				t.Errorf("Turn of %v by %v: got the list %v, want %v", x, order, l, turned)
			}
		}
	}
}

func TestTurnErrors(t *testing.T) {
	x, _ := pack.Pack(matrix(), csr()...)
	for _, order := range [][]int{{0}, {1}, {0, 0}, {1, 1}, {0, 2}, {-1, 0}, {1, 2}, {0, 1, 2}, {math.MinInt, math.MaxInt}, make([]int, 100)} {
		if got, e := pack.Turn(x, order...); e != api.ErrArg || !isZero(got) {
			t.Errorf("Turn by %v: got %v, error %d", order[:min(len(order), 8)], got, e)
		}
	}
	if got, e := pack.Turn(api.Tensor{V: []int64{3}}, 0); e != api.ErrArg || !isZero(got) {
		t.Errorf("Turn of a number by 0: got %v, error %d", got, e)
	}
}

func TestTightByHand(t *testing.T) {
	for _, c := range byHand() {
		if tight, e := pack.Tight(c.t); !tight || e != api.OK {
			t.Errorf("%s: Tight of %v: got %v, error %d", c.what, c.t, tight, e)
		}
	}
	d, b := api.Level{Size: 2}, api.Level{Kind: api.BlockL, Size: 2}
	p := func(size int, pos, crd []int) api.Level {
		return api.Level{Kind: api.PackedL, Size: size, Pos: pos, Crd: crd}
	}
	l := api.Level{Kind: api.LooseL, Size: 2, Pos: []int{0, 2}, Crd: []int{0, 1}}
	s := api.Level{Kind: api.SingleL, Size: 3, Crd: []int{2, 2}}
	for _, c := range []struct {
		what string
		t    api.Tensor
	}{
		{"a number of 0", api.Tensor{Shape: []int{2, 3}, F: csr(), L: []api.Level{d, p(3, []int{0, 1, 2}, []int{1, 1})}, V: []int64{5, 0}}},
		{"a row without entries", api.Tensor{Shape: []int{2, 3}, F: dcsr(), L: []api.Level{p(2, []int{0, 2}, []int{0, 1}), p(3, []int{0, 1, 1}, []int{1})}, V: []int64{5}}},
		{"a row without any", api.Tensor{Shape: []int{2, 3}, F: dcsr(), L: []api.Level{p(2, []int{0, 1}, []int{0}), p(3, []int{0, 0}, nil)}}},
		{"a row of 0", api.Tensor{Shape: []int{2, 2}, F: form(packed(0), dense(1)), L: []api.Level{p(2, []int{0, 2}, []int{0, 1}), d}, V: []int64{0, 0, 0, 7}}},
		{"a block of 0", api.Tensor{Shape: []int{4, 4}, F: bsr(2), L: []api.Level{d, p(2, []int{0, 1, 2}, []int{0, 1}), b, b}, V: []int64{0, 1, 0, 0, 0, 0, 0, 0}}},
		{"an entry of 0", api.Tensor{Shape: []int{2, 3}, F: list(), L: []api.Level{l, s}, V: []int64{0, 4}}},
	} {
		if e := store.Check(c.t); e != api.OK {
			t.Errorf("%s: %v may not be: error %d", c.what, c.t, e)
		}
		if tight, e := pack.Tight(c.t); tight || e != api.OK {
			t.Errorf("%s: Tight of %v: got %v, error %d", c.what, c.t, tight, e)
		}
	}
}

func TestTight(t *testing.T) {
	yes, no := 0, 0
	for _, x := range slack(t) {
		want := store.Same(x, laid(t, x.Shape, read(t, x), x.F))
		if want {
			yes++
		} else {
			no++
		}
		if got, e := pack.Tight(x); got != want || e != api.OK {
			t.Errorf("Tight of %v: got %v, error %d; want %v", x, got, e, want)
		}
	}
	if yes < 100 || no < 100 {
		t.Errorf("%d of them are tight, and %d are not: too few to tell", yes, no)
	}
}

// P6.3

func TestNamed(t *testing.T) {
	for _, c := range []struct {
		name string
		f    [5][]api.Spec
		not  []int
	}{
		{"dense", [5][]api.Spec{nil, form(dense(0)), form(dense(0), dense(1)), form(dense(0), dense(1), dense(2)), form(dense(0), dense(1), dense(2), dense(3))}, nil},
		{"coo", [5][]api.Spec{nil, form(loose(0)), list(), form(loose(0), single(1), single(2)), form(loose(0), single(1), single(2), single(3))}, []int{0}},
		{"csf", [5][]api.Spec{nil, form(packed(0)), dcsr(), form(packed(0), packed(1), packed(2)), form(packed(0), packed(1), packed(2), packed(3))}, nil},
		{"csr", [5][]api.Spec{2: csr()}, []int{0, 1, 3, 4}},
		{"csc", [5][]api.Spec{2: csc()}, []int{0, 1, 3, 4}},
		{"dcsr", [5][]api.Spec{2: dcsr()}, []int{0, 1, 3, 4}},
		{"dcsc", [5][]api.Spec{2: dcsc()}, []int{0, 1, 3, 4}},
		{"bsr", [5][]api.Spec{2: bsr(3)}, []int{0, 1, 3, 4}},
	} {
		for rank, want := range c.f {
			e := api.OK
			if slices.Contains(c.not, rank) {
				e = api.ErrNone
			}
			if got, ge := pack.Named(c.name, rank, 3); ge != e || !slices.Equal(got, want) {
				t.Errorf("Named %s of rank %d: got %v, error %d; want %v, error %d", c.name, rank, got, ge, want, e)
			}
			// Only of blocks the size says anything.
			for _, size := range []int{0, -1, math.MinInt, 7, math.MaxInt} {
				if got, ge := pack.Named(c.name, rank, size); c.name != "bsr" && (ge != e || !slices.Equal(got, want)) {
					t.Errorf("Named %s of rank %d, block %d: got %v, error %d", c.name, rank, size, got, ge)
				}
			}
		}
		for _, rank := range []int{-1, 5, math.MinInt, math.MaxInt} {
			if got, e := pack.Named(c.name, rank, 3); e != api.ErrArg || len(got) != 0 {
				t.Errorf("Named %s of rank %d: got %v, error %d", c.name, rank, got, e)
			}
		}
	}
}

func TestNamedErrors(t *testing.T) {
	for _, name := range []string{"", "x", "CSR", "csr ", " csr", "cs", "csrr", "bs", "bsc", "dcs", "Dense", "csr\x00", "\xff"} {
		for rank := -1; rank < 6; rank++ {
			want := api.ErrNone
			if rank < 0 || rank > 4 {
				want = api.ErrArg
			}
			if got, e := pack.Named(name, rank, 2); e != want || len(got) != 0 {
				t.Errorf("Named %q of rank %d: got %v, error %d, want %d", name, rank, got, e, want)
			}
		}
	}
	for _, size := range []int{0, -1, math.MinInt} {
		if got, e := pack.Named("bsr", 2, size); e != api.ErrArg || len(got) != 0 {
			t.Errorf("Named bsr, block %d: got %v, error %d", size, got, e)
		}
		// That there is none of the rank is told ahead of the block.
		for _, rank := range []int{0, 1, 3, 4} {
			if got, e := pack.Named("bsr", rank, size); e != api.ErrNone || len(got) != 0 {
				t.Errorf("Named bsr of rank %d, block %d: got %v, error %d", rank, size, got, e)
			}
		}
	}
	for _, size := range []int{1, math.MaxInt} {
		if got, e := pack.Named("bsr", 2, size); e != api.OK || !slices.Equal(got, bsr(size)) {
			t.Errorf("Named bsr, block %d: got %v, error %d", size, got, e)
		}
	}
}

// P6.4

func TestWhatFollows(t *testing.T) {
	var last api.Tensor
	for _, s := range samples() {
		x, e := pack.Pack(s.x, s.f...)
		if e != api.OK || store.Check(x) != api.OK {
			t.Fatalf("Pack of %v in %v: got %v, error %d", s.x, s.f, x, e)
		}
		want, _ := coo.Dense(s.x)
		if d, e := store.Dense(x); e != api.OK || !box.Same(d, want) {
			t.Errorf("Pack of %v in %v: is %v, want %v", s.x, s.f, d, want)
		}
		l, e := pack.List(x)
		if p, _ := coo.Plain(s.x); e != api.OK || !coo.Same(l, p) {
			t.Errorf("Pack of %v in %v: its list is %v, error %d; want %v", s.x, s.f, l, e, p)
		}
		if tight, e := pack.Tight(x); !tight || e != api.OK {
			t.Errorf("Pack of %v in %v: got tight %v, error %d", s.x, s.f, tight, e)
		}
		// In another form ahead of this one: that of the sample ahead, if it has as many modes.
		if slices.Equal(last.Shape, s.x.Shape) {
			there, te := pack.Pack(s.x, last.F...)
			back, be := pack.Again(there, s.f...)
			if te != api.OK || be != api.OK || !store.Same(back, x) {
				t.Errorf("Pack of %v in %v, and then in %v: got %v, errors %d, %d; want %v", s.x, last.F, s.f, back, te, be, x)
			}
		}
		last = x
	}
}

func TestAllFormsInTurn(t *testing.T) {
	for _, shape := range [][]int{{6}, {4, 2}, {2, 2, 3}} {
		x := mixed(77, 9, shape)
		all := formsOf(shape, 2)
		if len(shape) == 3 {
			all = formsOf(shape)
		}
		for _, f := range all {
			at, _ := pack.Pack(x, f...)
			for k, g := range all {
				if len(all) > 50 && k%7 != 0 {
					continue
				}
				want, _ := pack.Pack(x, g...)
				if got, e := pack.Again(at, g...); e != api.OK || !store.Same(got, want) {
					t.Errorf("%v in %v, and then in %v: got %v, error %d; want %v", x, f, g, got, e, want)
				}
			}
		}
	}
}

// R2: what is handed in is left as it is, and what is told is new.

// roomy is a list with room behind it, that must not be written to.
func roomy[T any](l []T, mark T) []T {
	return append(slices.Clone(l), mark, mark)[:len(l)]
}

// roomyList is a list whose lists all have room behind them.
func roomyList(x api.Coo) api.Coo {
	y := api.Coo{Shape: roomy(x.Shape, 77), E: roomy(x.E, api.Entry{V: 77})}
	for n, e := range x.E {
		y.E[n].C = roomy(e.C, 77)
	}
	return y
}

// roomyTensor is a tensor whose lists all have room behind them.
func roomyTensor(x api.Tensor) api.Tensor {
	y := api.Tensor{Shape: roomy(x.Shape, 77), F: roomy(x.F, api.Spec{Kind: 77}), L: roomy(x.L, api.Level{Kind: 77}), V: roomy(x.V, 77)}
	for k, l := range x.L {
		y.L[k].Pos, y.L[k].Crd = roomy(l.Pos, 77), roomy(l.Crd, 77)
	}
	return y
}

// same tells whether two lists are the same, with the two numbers behind each.
func same[T comparable](a, b []T) bool {
	return slices.Equal(a[:len(a)+2], b[:len(b)+2])
}

// intactList tells whether y is x as roomyList made it.
func intactList(x, y api.Coo) bool {
	x = roomyList(x)
	ok := same(x.Shape, y.Shape) && len(x.E) == len(y.E)
	for n, e := range x.E[:len(x.E)+2] {
		f := y.E[:len(x.E)+2][n]
		ok = ok && e.V == f.V && (n >= len(x.E) && len(f.C) == 0 || n < len(x.E) && same(e.C, f.C))
	}
	return ok
}

// intact tells whether y is x as roomyTensor made it.
func intact(x, y api.Tensor) bool {
	x = roomyTensor(x)
	ok := same(x.Shape, y.Shape) && same(x.F, y.F) && same(x.V, y.V)
	for k, l := range x.L[:len(x.L)+2] {
		m := y.L[:len(x.L)+2][k]
		ok = ok && level.Same(l, m) && (k >= len(x.L) || same(l.Pos, m.Pos) && same(l.Crd, m.Crd))
	}
	return ok
}

// fill writes into a list, and into what is behind it.
func fill[T any](l []T, v T) {
	for k := range l[:cap(l)] {
		l[:cap(l)][k] = v
	}
}

// fillTensor writes into all lists of a tensor but the levels themselves.
func fillTensor(x api.Tensor, v int) {
	fill(x.Shape, v)
	fill(x.F, api.Spec{Kind: v})
	for _, l := range x.L {
		fill(l.Pos, v)
		fill(l.Crd, v)
	}
	fill(x.V, int64(v))
}

func fillList(x api.Coo, v int) {
	fill(x.Shape, v)
	for _, e := range x.E {
		fill(e.C, v)
	}
	fill(x.E, api.Entry{V: int64(v)})
}

// TestNothingIsChanged holds that no call changes what it is handed, nor tells a piece of it.
func TestNothingIsChanged(t *testing.T) {
	for _, c := range byHand() {
		x, y, f := roomyList(c.x), roomyTensor(c.t), roomy(c.t.F, api.Spec{Kind: 77})
		d, _ := coo.Dense(c.x)
		laid := api.Dense{Shape: roomy(d.Shape, 77), V: roomy(d.V, 77)}
		order := roomy(orders(len(c.x.Shape))[0], 77)
		var told []api.Tensor
		add := func(u api.Tensor, e api.Errno) {
			if told = append(told, u); e != api.OK {
				t.Errorf("%s: error %d", c.what, e)
			}
		}
		add(pack.Pack(x, f...))
		add(pack.Dense(laid, f...))
		add(pack.Again(y, f...))
		add(pack.Again(y, y.F...))
		add(pack.Turn(y, order...))
		l, e := pack.List(y)
		pack.Tight(y)
		n, _ := pack.Room(x, f...)
		for _, u := range told {
			fillTensor(u, -9)
			fill(u.L, api.Level{})
		}
		fillList(l, -9)
		fill(n, -9)
		if e != api.OK || !intactList(c.x, x) || !intact(c.t, y) || !same(f, roomy(c.t.F, api.Spec{Kind: 77})) {
			t.Errorf("%s: what is handed in is changed, error %d", c.what, e)
		}
		if !same(laid.Shape, roomy(d.Shape, 77)) || !same(laid.V, roomy(d.V, 77)) || !same(order, roomy(orders(len(c.x.Shape))[0], 77)) {
			t.Errorf("%s: what is laid out, or the order, is changed", c.what)
		}
	}
}

// apart tells whether no two lists of a tensor share memory.
func apart(x api.Tensor) bool {
	var l [][]int
	l = append(l, x.Shape)
	for _, m := range x.L {
		l = append(l, m.Pos, m.Crd)
	}
	for k, m := range l {
		fill(m, k)
	}
	ok := true
	for k, m := range l {
		ok = ok && !slices.ContainsFunc(m, func(v int) bool { return v != k })
	}
	return ok
}

func TestWhatIsToldIsNew(t *testing.T) {
	for _, c := range byHand() {
		x, y, f := roomyList(c.x), roomyTensor(c.t), roomy(c.t.F, api.Spec{Kind: 77})
		d, _ := coo.Dense(c.x)
		packed, _ := pack.Pack(x, f...)
		laid, _ := pack.Dense(d, f...)
		again, _ := pack.Again(y, f...)
		turned, _ := pack.Turn(y)
		l, _ := pack.List(y)
		fillList(x, -9)
		fillTensor(y, -9)
		fill(y.L, api.Level{})
		fill(f, api.Spec{Kind: -9})
		fill(d.Shape, -9)
		fill(d.V, -9)
		for _, u := range []api.Tensor{packed, laid, again, turned} {
			if !store.Same(u, c.t) {
				t.Errorf("%s, written to behind the call: got %v, want %v", c.what, u, c.t)
			}
			if !apart(u) {
				t.Errorf("%s: two of what is told are one", c.what)
			}
		}
		if !slices.Equal(l.Shape, c.x.Shape) || !sameEntries(l.E, plain(c.x)) {
			t.Errorf("%s: List, written to behind the call: got %v", c.what, l)
		}
		for n, e := range l.E {
			fill(e.C, n)
		}
		for n, e := range l.E {
			if slices.ContainsFunc(e.C, func(at int) bool { return at != n }) || !slices.Equal(l.Shape, c.x.Shape) {
				t.Errorf("%s: List: the place of entry %d is written to by another one", c.what, n)
			}
		}
	}
}

func TestNamedIsNew(t *testing.T) {
	for _, name := range []string{"dense", "coo", "csf", "csr", "csc", "dcsr", "dcsc", "bsr"} {
		want, _ := pack.Named(name, 2, 2)
		f, _ := pack.Named(name, 2, 2)
		fill(f, api.Spec{Kind: -9})
		if again, e := pack.Named(name, 2, 2); e != api.OK || !slices.Equal(again, want) {
			t.Errorf("Named %s, asked once more: got %v, error %d; want %v", name, again, e, want)
		}
	}
}
