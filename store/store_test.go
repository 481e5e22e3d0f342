package store_test

import (
	"math"
	"slices"
	"testing"

	"purfle/api"
	"purfle/box"
	"purfle/coo"
	"purfle/level"
	"purfle/store"
)

// maxSize is how many places a level has at the most.
const maxSize = 1 << 31

func dense(mode int) api.Spec       { return api.Spec{Kind: api.DenseL, Mode: mode} }
func packed(mode int) api.Spec      { return api.Spec{Kind: api.PackedL, Mode: mode} }
func loose(mode int) api.Spec       { return api.Spec{Kind: api.LooseL, Mode: mode} }
func single(mode int) api.Spec      { return api.Spec{Kind: api.SingleL, Mode: mode} }
func block(mode, size int) api.Spec { return api.Spec{Kind: api.BlockL, Mode: mode, Size: size} }

func form(f ...api.Spec) []api.Spec { return f }

// The matrices that are told by hand: of rows, as a list, of blocks, and a number without modes.

func csr() api.Tensor {
	return api.Tensor{Shape: []int{3, 4}, F: form(dense(0), packed(1)), L: []api.Level{
		{Kind: api.DenseL, Size: 3},
		{Kind: api.PackedL, Size: 4, Pos: []int{0, 2, 2, 3}, Crd: []int{0, 3, 1}},
	}, V: []int64{5, 6, 7}}
}

func list() api.Tensor {
	return api.Tensor{Shape: []int{3, 4}, F: form(loose(1), single(0)), L: []api.Level{
		{Kind: api.LooseL, Size: 4, Pos: []int{0, 4}, Crd: []int{0, 1, 1, 3}},
		{Kind: api.SingleL, Size: 3, Crd: []int{2, 0, 2, 1}},
	}, V: []int64{5, 6, 0, -7}}
}

func blocks() api.Tensor {
	return api.Tensor{Shape: []int{4, 6}, F: form(dense(0), packed(1), block(0, 2), block(1, 3)), L: []api.Level{
		{Kind: api.DenseL, Size: 2},
		{Kind: api.PackedL, Size: 2, Pos: []int{0, 1, 2}, Crd: []int{1, 0}},
		{Kind: api.BlockL, Size: 2},
		{Kind: api.BlockL, Size: 3},
	}, V: []int64{1, 2, 3, 4, 5, 6, 7, 8, 9, 10, 11, 12}}
}

// lists is a list of each row, with two single ones behind each.
func lists() api.Tensor {
	return api.Tensor{Shape: []int{2, 3, 4, 5}, F: form(dense(0), loose(3), single(1), single(2)), L: []api.Level{
		{Kind: api.DenseL, Size: 2},
		{Kind: api.LooseL, Size: 5, Pos: []int{0, 4, 7}, Crd: []int{1, 1, 1, 4, 0, 1, 1}},
		{Kind: api.SingleL, Size: 3, Crd: []int{0, 0, 2, 0, 2, 0, 0}},
		{Kind: api.SingleL, Size: 4, Crd: []int{1, 3, 0, 0, 3, 1, 3}},
	}, V: []int64{1, 2, 3, 4, 5, 6, 7}}
}

func one() api.Tensor { return api.Tensor{V: []int64{9}} }

// counted tells numbers from 0 on that look like no order, below a bound.
func counted(salt int) func(below int) int {
	s := uint64(salt)
	return func(below int) int {
		s = s*6364136223846793005 + 1442695040888963407
		return int(s>>33) % below
	}
}

// formsOf are all forms of a shape whose blocks are of the sizes named, by the chapter's words.
func formsOf(shape []int, sizes ...int) [][]api.Spec {
	var l [][]api.Spec
	var grow func(f []api.Spec)
	grow = func(f []api.Spec) {
		if isForm(shape, f) {
			l = append(l, slices.Clone(f))
		}
		for mode := range shape {
			for kind := range 4 {
				if !slices.ContainsFunc(f, func(s api.Spec) bool { return s.Mode == mode }) && goes(append(f, api.Spec{Kind: kind, Mode: mode})) {
					grow(append(slices.Clone(f), api.Spec{Kind: kind, Mode: mode}))
				}
			}
			for _, size := range sizes {
				had := slices.ContainsFunc(f, func(s api.Spec) bool { return s.Mode == mode && s.Kind == api.BlockL })
				if !had && shape[mode]%size == 0 && goes(append(f, block(mode, size))) {
					grow(append(slices.Clone(f), block(mode, size)))
				}
			}
		}
	}
	grow(nil)
	return l
}

// isForm tells whether f is a form of a shape, as the chapter's words have it.
func isForm(shape []int, f []api.Spec) bool {
	for mode, size := range shape {
		plain, blocked := -1, -1
		for k, s := range f {
			switch {
			case s.Mode != mode:
			case s.Kind != api.BlockL && plain < 0:
				plain = k
			case s.Kind == api.BlockL && blocked < 0 && s.Size >= 1 && size%s.Size == 0:
				blocked = k
			default:
				return false
			}
		}
		if plain < 0 || blocked >= 0 && blocked < plain {
			return false
		}
	}
	for _, s := range f {
		if s.Mode < 0 || s.Mode >= len(shape) || s.Kind != api.BlockL && s.Size != 0 {
			return false
		}
	}
	return goes(f)
}

// goes tells whether the kinds of f may stand one behind the other.
func goes(f []api.Spec) bool {
	for k, s := range f {
		if s.Kind < api.DenseL || s.Kind > api.BlockL {
			return false
		}
		if s.Kind == api.SingleL && (k == 0 || f[k-1].Kind != api.LooseL && f[k-1].Kind != api.SingleL) {
			return false
		}
		if s.Kind == api.LooseL && slices.ContainsFunc(f[k+1:], func(b api.Spec) bool { return b.Kind != api.SingleL }) {
			return false
		}
	}
	return true
}

// filled is a tensor of a form, at places that look like no order, with some numbers that are 0.
func filled(t *testing.T, salt int, shape []int, f []api.Spec) api.Tensor {
	t.Helper()
	sizes, e := store.Sizes(shape, f...)
	if e != api.OK {
		t.Fatalf("Sizes of %v, %v: error %d", shape, f, e)
	}
	next := counted(salt)
	x := api.Tensor{Shape: slices.Clone(shape), F: slices.Clone(f)}
	ahead := 1
	for k := 0; k < len(f); k++ {
		for _, l := range grown(t, next, ahead, f[k:], sizes[k:]) {
			x.L = append(x.L, l)
			ahead, e = level.Below(l, ahead)
			if e != api.OK {
				t.Fatalf("a level that is made, of %v, %v, may not be: error %d", shape, f, e)
			}
		}
		k = len(x.L) - 1
	}
	for range ahead {
		x.V = append(x.V, int64(next(5)-2)*int64(next(1000)))
	}
	return x
}

// grown are the next level of a form, and the single ones behind it.
func grown(t *testing.T, next func(int) int, ahead int, f []api.Spec, sizes []int) []api.Level {
	t.Helper()
	if f[0].Kind == api.LooseL {
		return grownList(t, next, ahead, sizes)
	}
	groups := make([][]int, ahead)
	for p := range groups {
		for at := range sizes[0] {
			if next(3) == 0 {
				groups[p] = append(groups[p], at)
			}
		}
	}
	return []api.Level{made(t, f[0].Kind, sizes[0], groups)}
}

// grownList are a loose level, and the single ones behind it.
func grownList(t *testing.T, next func(int) int, ahead int, sizes []int) []api.Level {
	t.Helper()
	groups := make([][]int, ahead)
	singles := make([][][]int, len(sizes)-1)
	for p := range groups {
		var rows [][]int
		for range next(7) {
			row := make([]int, 0, len(sizes))
			for _, size := range sizes {
				if size > 0 {
					row = append(row, next(size))
				}
			}
			if len(row) == len(sizes) {
				rows = append(rows, row)
			}
		}
		slices.SortFunc(rows, slices.Compare)
		rows = slices.CompactFunc(rows, slices.Equal)
		for _, row := range rows {
			groups[p] = append(groups[p], row[0])
			for k := range singles {
				singles[k] = append(singles[k], []int{row[k+1]})
			}
		}
	}
	l := []api.Level{made(t, api.LooseL, sizes[0], groups)}
	for k, ones := range singles {
		l = append(l, made(t, api.SingleL, sizes[k+1], ones))
	}
	return l
}

func made(t *testing.T, kind, size int, groups [][]int) api.Level {
	t.Helper()
	l, e := level.Make(kind, size, groups...)
	if e != api.OK {
		t.Fatalf("Make of kind %d, size %d, of %v: error %d", kind, size, groups, e)
	}
	return l
}

// samples are tensors of all ranks, in all forms of small ones, and in many of greater ones.
func samples(t *testing.T) []api.Tensor {
	t.Helper()
	l := []api.Tensor{csr(), list(), blocks(), lists(), one()}
	for salt, x := range []struct {
		shape, sizes []int
		each         int
	}{
		{nil, nil, 1}, {[]int{0}, []int{1, 4}, 1}, {[]int{1}, []int{1}, 1}, {[]int{6}, []int{1, 2, 3, 6}, 1},
		{[]int{2, 3}, []int{1}, 1}, {[]int{4, 6}, []int{2}, 1}, {[]int{6, 6}, []int{2, 3}, 1}, {[]int{0, 4}, []int{2}, 3}, {[]int{4, 0}, []int{2}, 3},
		{[]int{2, 3, 4}, []int{2}, 5}, {[]int{4, 2, 4}, []int{2}, 41}, {[]int{3, 0, 2}, []int{2}, 47},
		{[]int{2, 3, 2, 3}, []int{3}, 59}, {[]int{4, 2, 2, 4}, []int{2}, 1201},
	} {
		for k, f := range formsOf(x.shape, x.sizes...) {
			if k%x.each == 0 {
				l = append(l, filled(t, salt*100000+k, x.shape, f))
			}
		}
	}
	return l
}

// above are the numbers of a tensor's levels' children that the child n of the last one is below of, and these children's places, found from below.
func above(t *testing.T, x api.Tensor, n int) []int {
	t.Helper()
	ahead := make([]int, len(x.L)+1)
	ahead[0] = 1
	for k, l := range x.L {
		below, e := level.Below(l, ahead[k])
		if e != api.OK {
			t.Fatalf("%v: level %d may not be: error %d", x, k, e)
		}
		ahead[k+1] = below
	}
	at := make([]int, len(x.L))
	for k := len(x.L) - 1; k >= 0; k-- {
		p, place, e := level.Parent(x.L[k], ahead[k], n)
		if e != api.OK {
			t.Fatalf("%v: Parent of %d in level %d: error %d", x, n, k, e)
		}
		at[k], n = place, p
	}
	return at
}

// entries are a tensor's, by the chapter's words.
func entries(t *testing.T, x api.Tensor) []api.Entry {
	t.Helper()
	var l []api.Entry
	for n, v := range x.V {
		at := above(t, x, n)
		c := make([]int, len(x.Shape))
		for k, s := range x.F {
			if s.Kind == api.BlockL {
				c[s.Mode] = c[s.Mode]*s.Size + at[k]
			} else {
				c[s.Mode] = at[k]
			}
		}
		l = append(l, api.Entry{C: c, V: v})
	}
	return l
}

// key is a place that can be held against another one.
func key(c []int) [4]int {
	k := [4]int{-1, -1, -1, -1}
	copy(k[:], c)
	return k
}

// cells are all places in a shape.
func cells(t *testing.T, shape []int) [][]int {
	t.Helper()
	n, e := box.Cells(shape...)
	if e != api.OK {
		t.Fatalf("Cells of %v: error %d", shape, e)
	}
	l := make([][]int, n)
	for k := range l {
		l[k], _ = box.Coord(shape, k)
	}
	return l
}

func sameEntries(a, b []api.Entry) bool {
	return slices.EqualFunc(a, b, func(x, y api.Entry) bool { return x.V == y.V && slices.Equal(x.C, y.C) })
}

// brief is as much of a tensor as is worth telling.
func brief(x api.Tensor) api.Tensor {
	x.L = slices.Clone(x.L)
	for k, l := range x.L {
		x.L[k].Pos, x.L[k].Crd = l.Pos[:min(len(l.Pos), 8)], l.Crd[:min(len(l.Crd), 8)]
	}
	x.V = x.V[:min(len(x.V), 8)]
	return x
}

// P5.1

type formed struct {
	shape []int
	f     []api.Spec
	sizes []int
}

// goodForms are forms, told by hand, and their levels' sizes.
func goodForms() []formed {
	return []formed{
		{nil, nil, nil},
		{[]int{}, form(), []int{}},
		{[]int{5}, form(dense(0)), []int{5}},
		{[]int{5}, form(packed(0)), []int{5}},
		{[]int{5}, form(loose(0)), []int{5}},
		{[]int{0}, form(dense(0)), []int{0}},
		{[]int{6}, form(dense(0), block(0, 2)), []int{3, 2}},
		{[]int{6}, form(packed(0), block(0, 6)), []int{1, 6}},
		{[]int{6}, form(packed(0), block(0, 1)), []int{6, 1}},
		{[]int{0}, form(packed(0), block(0, 7)), []int{0, 7}},
		{[]int{2, 3}, form(dense(0), packed(1)), []int{2, 3}},
		{[]int{2, 3}, form(dense(1), packed(0)), []int{3, 2}},
		{[]int{2, 3}, form(packed(1), dense(0)), []int{3, 2}},
		{[]int{2, 3}, form(loose(0), single(1)), []int{2, 3}},
		{[]int{2, 3}, form(loose(1), single(0)), []int{3, 2}},
		{[]int{2, 3}, form(packed(1), loose(0)), []int{3, 2}},
		{[]int{4, 6}, form(dense(0), packed(1), block(0, 2), block(1, 3)), []int{2, 2, 2, 3}},
		{[]int{4, 6}, form(packed(1), block(1, 2), dense(0), block(0, 4)), []int{3, 2, 1, 4}},
		{[]int{4, 6}, form(dense(0), packed(1), block(1, 3), block(0, 2)), []int{2, 2, 3, 2}},
		{[]int{4, 6}, form(dense(0), block(0, 2), loose(1)), []int{2, 2, 6}},
		{[]int{2, 3, 4}, form(dense(2), loose(0), single(1)), []int{4, 2, 3}},
		{[]int{2, 3, 4, 5}, form(loose(3), single(1), single(0), single(2)), []int{5, 3, 2, 4}},
		{[]int{2, 4, 6, 8}, form(dense(0), block(0, 2), dense(1), block(1, 2), dense(2), block(2, 2), dense(3), block(3, 2)), []int{1, 2, 2, 2, 3, 2, 4, 2}},
		{[]int{maxSize}, form(dense(0)), []int{maxSize}},
		{[]int{1 << 40}, form(packed(0), block(0, 1<<9)), []int{maxSize, 1 << 9}},
		{[]int{1 << 40}, form(packed(0), block(0, maxSize)), []int{1 << 9, maxSize}},
		{[]int{1<<30 - 1, maxSize}, form(packed(1), packed(0)), []int{maxSize, 1<<30 - 1}},
		{[]int{0}, form(dense(0), block(0, maxSize)), []int{0, maxSize}},
	}
}

func TestForm(t *testing.T) {
	for _, x := range goodForms() {
		if e := store.Form(x.shape, x.f...); e != api.OK {
			t.Errorf("Form of %v, %v: got error %d", x.shape, x.f, e)
		}
		if sizes, e := store.Sizes(x.shape, x.f...); !slices.Equal(sizes, x.sizes) || e != api.OK {
			t.Errorf("Sizes of %v, %v: got %v, error %d; want %v", x.shape, x.f, sizes, e, x.sizes)
		}
	}
}

type badForm struct {
	shape []int
	f     []api.Spec
	e     api.Errno
}

// badForms are none, and the error that the chapter names first.
func badForms() []badForm {
	l := []badForm{
		{[]int{-1}, form(dense(0)), api.ErrArg},
		{[]int{-1}, nil, api.ErrArg},
		{[]int{2, math.MinInt}, form(dense(0), dense(1)), api.ErrArg},
		{[]int{1, 1, 1, 1, 1}, form(dense(0), dense(1), dense(2), dense(3), dense(4)), api.ErrArg},
		{[]int{1 << 62}, form(dense(0)), api.ErrLarge},
		{[]int{1 << 62}, nil, api.ErrLarge},
		{[]int{1 << 31, 1 << 31}, form(single(0)), api.ErrLarge},
		// What is too large is told behind what is no form.
		{[]int{maxSize + 1}, form(dense(0)), api.ErrLarge},
		{[]int{maxSize + 1}, form(single(0)), api.ErrShape},
		{[]int{maxSize + 1}, form(dense(0), dense(0)), api.ErrShape},
		{[]int{maxSize + 1, 2}, form(dense(0), dense(2)), api.ErrShape},
		{[]int{2, maxSize + 2}, form(dense(0), loose(1)), api.ErrLarge},
		{[]int{2, maxSize + 2}, form(dense(0), packed(1), block(1, 2)), api.OK},
		{[]int{2, 2*maxSize + 2}, form(dense(0), packed(1), block(1, 2)), api.ErrLarge},
		{[]int{2, 2*maxSize + 2}, form(dense(0), packed(1), block(1, maxSize+1)), api.ErrLarge},
		{[]int{maxSize + 1}, form(dense(0), block(0, maxSize+1)), api.ErrLarge},
		{[]int{0}, form(dense(0), block(0, maxSize+1)), api.ErrLarge},
		{[]int{0}, form(dense(0), block(0, math.MaxInt)), api.ErrLarge},
		{[]int{0, math.MaxInt}, form(dense(0), dense(1)), api.ErrLarge},
		{[]int{0, math.MaxInt}, form(dense(0), dense(1), block(1, 2)), api.ErrShape},
	}
	for _, f := range [][]api.Spec{
		nil, form(dense(0)), form(dense(1)), form(dense(0), dense(0)), form(dense(0), dense(1), dense(1)), form(dense(0), dense(1), packed(0)),
		form(dense(0), dense(2)), form(dense(0), dense(-1)), form(dense(0), dense(1), dense(2)), form(dense(0), dense(math.MaxInt)), form(dense(math.MinInt), dense(1)),
		form(dense(0), single(1)), form(single(0), single(1)), form(single(0), dense(1)), form(packed(0), single(1)), form(dense(0), block(0, 2), single(1)),
		form(loose(0), dense(1)), form(loose(0), packed(1)), form(loose(0), loose(1)), form(loose(0), single(1), block(1, 2)), form(loose(0), block(0, 2), single(1)),
		form(block(0, 2), dense(0), dense(1)), form(dense(0), block(1, 2), dense(1)), form(dense(0), dense(1), block(0, 2), block(0, 2)), form(block(0, 4), block(1, 6)),
		form(dense(0), dense(1), block(0, 3)), form(dense(0), dense(1), block(1, 4)), form(dense(0), dense(1), block(0, 8)), form(dense(0), dense(1), block(0, 0)),
		form(dense(0), dense(1), block(0, -2)), form(dense(0), dense(1), block(0, -1)), form(dense(0), dense(1), block(0, math.MinInt)), form(dense(0), dense(1), block(2, 2)),
		form(dense(0), dense(1), block(-1, 2)), form(dense(0), block(0, 4)), form(dense(0), block(0, 2), dense(0), dense(1)),
		form(api.Spec{Kind: api.DenseL, Size: 4}, dense(1)), form(dense(0), api.Spec{Kind: api.PackedL, Mode: 1, Size: 1}), form(dense(0), api.Spec{Kind: api.LooseL, Mode: 1, Size: -1}),
		form(loose(0), api.Spec{Kind: api.SingleL, Mode: 1, Size: 6}), form(api.Spec{Kind: 5}, dense(1)), form(api.Spec{Kind: -1}, dense(1)), form(dense(0), api.Spec{Kind: math.MinInt, Mode: 1}),
		form(loose(0), api.Spec{Kind: 5, Mode: 1}), form(dense(0), dense(1), api.Spec{Kind: 5, Mode: 1, Size: 2}), slices.Repeat(form(dense(0), dense(1)), 1000),
	} {
		l = append(l, badForm{[]int{4, 6}, f, api.ErrShape})
	}
	return append(l, badForm{nil, form(dense(0)), api.ErrShape}, badForm{nil, form(block(0, 1)), api.ErrShape})
}

func TestFormErrors(t *testing.T) {
	for _, x := range badForms() {
		if e := store.Form(x.shape, x.f...); e != x.e {
			t.Errorf("Form of %v, %v: got error %d, want %d", x.shape, x.f[:min(len(x.f), 8)], e, x.e)
		}
		sizes, e := store.Sizes(x.shape, x.f...)
		if e != x.e || e != api.OK && len(sizes) != 0 {
			t.Errorf("Sizes of %v, %v: got %v, error %d, want %d", x.shape, x.f[:min(len(x.f), 8)], sizes, e, x.e)
		}
	}
}

// eachOf goes through all lists of at most so many of the levels.
func eachOf(of []api.Spec, most int, f []api.Spec, do func(f []api.Spec)) {
	do(f)
	if len(f) == most {
		return
	}
	for _, s := range of {
		eachOf(of, most, append(slices.Clone(f), s), do)
	}
}

func TestFormOfAllLevels(t *testing.T) {
	var few, many []api.Spec
	for mode := -1; mode < 3; mode++ {
		for kind := -1; kind < 6; kind++ {
			for _, size := range []int{-2, 0, 1, 2, 3} {
				many = append(many, api.Spec{Kind: kind, Mode: mode, Size: size})
			}
		}
	}
	for mode := range 2 {
		few = append(few, dense(mode), packed(mode), loose(mode), single(mode), block(mode, 2))
	}
	for _, shape := range [][]int{{}, {4}, {4, 6}, {0, 2}, {2, 2, 4}} {
		told := 0
		do := func(f []api.Spec) {
			want := api.ErrShape
			if isForm(shape, f) {
				want = api.OK
				told++
			}
			if e := store.Form(shape, f...); e != want {
				t.Errorf("Form of %v, %v: got error %d, want %d", shape, f, e, want)
			}
		}
		eachOf(many, 2, nil, do)
		eachOf(few, 4, nil, do)
		if told == 0 && len(shape) < 3 {
			t.Errorf("no form of %v is among them", shape)
		}
	}
	for _, shape := range [][]int{{2, 2, 4}, {2, 4, 2, 4}} {
		for _, f := range formsOf(shape, 2) {
			if e := store.Form(shape, f...); e != api.OK {
				t.Errorf("Form of %v, %v: got error %d", shape, f, e)
			}
		}
	}
}

func TestSizesOfAllForms(t *testing.T) {
	for _, shape := range [][]int{{12}, {4, 6}, {0, 6}, {2, 4, 6}} {
		for _, f := range formsOf(shape, 2) {
			sizes, e := store.Sizes(shape, f...)
			if e != api.OK || len(sizes) != len(f) {
				t.Fatalf("Sizes of %v, %v: got %v, error %d", shape, f, sizes, e)
			}
			for k, s := range f {
				want := shape[s.Mode]
				if s.Kind == api.BlockL {
					want = 2
				} else if slices.Contains(f, block(s.Mode, 2)) {
					want /= 2
				}
				if sizes[k] != want {
					t.Errorf("Sizes of %v, %v: got %v, want %d at %d", shape, f, sizes, want, k)
				}
			}
		}
	}
}

// P5.2

func TestCheck(t *testing.T) {
	for _, x := range samples(t) {
		if e := store.Check(x); e != api.OK {
			t.Errorf("Check of %v: got error %d", x, e)
		}
	}
}

type bad struct {
	what string
	t    api.Tensor
	e    api.Errno
}

// but is a tensor that is changed in one way.
func but(x api.Tensor, change func(x *api.Tensor)) api.Tensor {
	change(&x)
	return x
}

// badOutlines are tensors of no form, and those that have not the levels, or numbers, that their form says.
func badOutlines() []bad {
	var l []bad
	for _, f := range badForms() {
		if f.e == api.OK {
			continue
		}
		// Nor does it count what levels and numbers it has.
		l = append(l,
			bad{"no form, no levels", api.Tensor{Shape: f.shape, F: f.f}, f.e},
			bad{"no form, one number", api.Tensor{Shape: f.shape, F: f.f, V: []int64{1}}, f.e},
			bad{"no form, levels of another one", api.Tensor{Shape: f.shape, F: f.f, L: csr().L, V: csr().V}, f.e})
	}
	for _, x := range []api.Tensor{csr(), list(), blocks(), lists()} {
		l = append(l,
			bad{"a level less", but(x, func(x *api.Tensor) { x.L = x.L[:len(x.L)-1] }), api.ErrArg},
			bad{"no levels", but(x, func(x *api.Tensor) { x.L = nil }), api.ErrArg},
			bad{"a level more", but(x, func(x *api.Tensor) { x.L = append(slices.Clone(x.L), api.Level{Kind: api.BlockL, Size: 1}) }), api.ErrArg},
			bad{"levels in another order", but(x, func(x *api.Tensor) { x.L = slices.Clone(x.L); slices.Reverse(x.L) }), api.ErrArg},
			bad{"a spec less", but(x, func(x *api.Tensor) { x.F = x.F[1:] }), api.ErrShape},
			bad{"a number more", but(x, func(x *api.Tensor) { x.V = append(slices.Clone(x.V), 0) }), api.ErrArg},
			bad{"a number less", but(x, func(x *api.Tensor) { x.V = x.V[1:] }), api.ErrArg},
			bad{"no numbers", but(x, func(x *api.Tensor) { x.V = nil }), api.ErrArg})
		for k := range x.L {
			for _, kind := range []int{-1, 0, 1, 2, 3, 4, 5} {
				if kind != x.L[k].Kind {
					l = append(l, bad{"another kind", butLevel(x, k, func(l *api.Level) { l.Kind = kind }), api.ErrArg})
				}
			}
			for _, by := range []int{-1, 1, math.MinInt, maxSize + 1} {
				l = append(l, bad{"another size", butLevel(x, k, func(l *api.Level) { l.Size += by }), api.ErrArg})
			}
		}
	}
	return append(l,
		bad{"nothing", api.Tensor{}, api.ErrArg},
		bad{"two numbers without modes", api.Tensor{V: []int64{1, 2}}, api.ErrArg},
		bad{"a level without modes", api.Tensor{L: []api.Level{{Size: 1}}, V: []int64{1}}, api.ErrArg},
		bad{"a number at no place", api.Tensor{Shape: []int{0}, F: form(dense(0)), L: []api.Level{{}}, V: []int64{0}}, api.ErrArg})
}

// butLevel is a tensor one level of which is changed in one way.
func butLevel(x api.Tensor, k int, change func(l *api.Level)) api.Tensor {
	x.L = slices.Clone(x.L)
	change(&x.L[k])
	return x
}

// badLevels are tensors with a level that may not be where it stands.
func badLevels() []bad {
	crd := func(l ...int) func(l *api.Level) { return func(x *api.Level) { x.Crd = l } }
	pos := func(l ...int) func(l *api.Level) { return func(x *api.Level) { x.Pos = l } }
	l := []bad{
		{"a place that is none", butLevel(csr(), 1, crd(0, 4, 1)), api.ErrRange},
		{"a place below 0", butLevel(csr(), 1, crd(-1, 3, 1)), api.ErrRange},
		{"places that stay", butLevel(csr(), 1, crd(3, 3, 1)), api.ErrArg},
		{"places that fall", butLevel(csr(), 1, crd(3, 0, 1)), api.ErrArg},
		{"a place more", butLevel(csr(), 1, crd(0, 3, 1, 2)), api.ErrArg},
		{"behind fewer", butLevel(csr(), 1, pos(0, 2, 3)), api.ErrArg},
		{"behind more", butLevel(csr(), 1, pos(0, 2, 2, 2, 3)), api.ErrArg},
		{"not from 0 on", butLevel(csr(), 1, pos(1, 2, 2, 3)), api.ErrArg},
		{"a dense one with places", butLevel(csr(), 0, crd(0, 1, 2)), api.ErrArg},
		{"a dense one with Pos", butLevel(csr(), 0, pos(0, 3)), api.ErrArg},
		{"a block with places", butLevel(blocks(), 3, crd(0, 1, 2)), api.ErrArg},
		{"a single place less", butLevel(list(), 1, crd(2, 0, 2)), api.ErrArg},
		{"a single place more", butLevel(list(), 1, crd(2, 0, 2, 1, 1)), api.ErrArg},
		{"a single place that is none", butLevel(list(), 1, crd(2, 0, 2, 3)), api.ErrRange},
		{"a loose place that is none", butLevel(list(), 0, crd(0, 1, 1, 4)), api.ErrRange},
		{"loose places that fall", butLevel(list(), 0, crd(1, 0, 1, 3)), api.ErrArg},
		{"loose ones behind two", butLevel(list(), 0, pos(0, 2, 4)), api.ErrArg},
		// Of several levels the first one's error is told, and ahead of that of the numbers.
		{"two that may not be", butLevel(butLevel(lists(), 1, crd(1, 1, 1, 5, 0, 1, 1)), 2, crd(0)), api.ErrRange},
		{"two that may not be", butLevel(butLevel(lists(), 2, crd(0)), 3, crd(9, 9, 9, 9, 9, 9, 9)), api.ErrArg},
		{"a place that is none, and no numbers", but(butLevel(csr(), 1, crd(0, 4, 1)), func(x *api.Tensor) { x.V = nil }), api.ErrRange},
		{"a place that is none, and what does not rise", butLevel(butLevel(list(), 0, crd(0, 1, 1, 1)), 1, crd(2, 0, 0, 3)), api.ErrRange},
		// A size, or kind, that is another one is told ahead of all levels.
		{"a place that is none, and another size behind it", butLevel(butLevel(lists(), 1, crd(1, 1, 1, 5, 0, 1, 1)), 3, func(x *api.Level) { x.Size++ }), api.ErrArg},
	}
	over := make([]int, api.MaxCrd+1)
	rising := make([]int, api.MaxCrd+1)
	for k := range rising {
		rising[k] = k
	}
	most := api.MaxBelow
	return append(l,
		bad{"more children than there may be", api.Tensor{Shape: []int{most + 1}, F: form(dense(0)), L: []api.Level{{Size: most + 1}}}, api.ErrLarge},
		bad{"more children than there may be, behind others", api.Tensor{Shape: []int{1 << 10, 1<<10 + 1}, F: form(dense(0), dense(1)), L: []api.Level{{Size: 1 << 10}, {Size: 1<<10 + 1}}}, api.ErrLarge},
		bad{"a block with more children than there may be", api.Tensor{Shape: []int{2 * most}, F: form(dense(0), block(0, 2)), L: []api.Level{{Size: most}, {Kind: api.BlockL, Size: 2}}}, api.ErrLarge},
		bad{"more places than there may be", api.Tensor{Shape: []int{1 << 20}, F: form(packed(0)), L: []api.Level{{Kind: api.PackedL, Size: 1 << 20, Pos: []int{0, len(over)}, Crd: rising}}, V: make([]int64, len(over))}, api.ErrLarge},
		bad{"more loose places than there may be", api.Tensor{Shape: []int{1}, F: form(loose(0)), L: []api.Level{{Kind: api.LooseL, Size: 1, Pos: []int{0, len(over)}, Crd: over}}, V: make([]int64, len(over))}, api.ErrLarge})
}

// badOrders are tensors whose places behind a loose level do not rise.
func badOrders() []bad {
	crd := func(l ...int) func(l *api.Level) { return func(x *api.Level) { x.Crd = l } }
	return []bad{
		{"single places that fall", butLevel(list(), 1, crd(2, 2, 0, 1)), api.ErrArg},
		{"single places that stay", butLevel(list(), 1, crd(2, 2, 2, 1)), api.ErrArg},
		{"the last two at one place", butLevel(butLevel(list(), 0, crd(0, 1, 3, 3)), 1, crd(2, 2, 1, 1)), api.ErrArg},
		{"the first two at one place", butLevel(butLevel(list(), 0, crd(0, 0, 1, 3)), 1, crd(2, 2, 1, 1)), api.ErrArg},
		{"the last single places stay", butLevel(lists(), 3, crd(1, 1, 0, 0, 3, 1, 3)), api.ErrArg},
		{"the last single places fall", butLevel(lists(), 3, crd(3, 1, 0, 0, 3, 1, 3)), api.ErrArg},
		{"the first single places fall", butLevel(lists(), 2, crd(1, 0, 2, 0, 2, 0, 0)), api.ErrArg},
		{"those of the second one ahead stay", butLevel(lists(), 3, crd(1, 3, 0, 0, 3, 3, 3)), api.ErrArg},
		{"loose ones alone at one place", api.Tensor{Shape: []int{4}, F: form(loose(0)), L: []api.Level{{Kind: api.LooseL, Size: 4, Pos: []int{0, 3}, Crd: []int{0, 2, 2}}}, V: []int64{1, 2, 3}}, api.ErrArg},
		{"loose ones alone at one place, of the last row", api.Tensor{Shape: []int{2, 4}, F: form(dense(0), loose(1)), L: []api.Level{{Size: 2}, {Kind: api.LooseL, Size: 4, Pos: []int{0, 1, 3}, Crd: []int{2, 2, 2}}}, V: []int64{1, 2, 3}}, api.ErrArg},
	}
}

func bads() []bad { return slices.Concat(badOutlines(), badLevels(), badOrders()) }

func TestCheckErrors(t *testing.T) {
	for _, x := range bads() {
		if e := store.Check(x.t); e != x.e {
			t.Errorf("%s: Check of %v: got error %d, want %d", x.what, brief(x.t), e, x.e)
		}
	}
}

func TestCheckOfMost(t *testing.T) {
	most := api.MaxBelow
	for _, x := range []api.Tensor{
		{Shape: []int{most}, F: form(dense(0)), L: []api.Level{{Size: most}}, V: make([]int64, most)},
		{Shape: []int{maxSize, 2}, F: form(packed(0), dense(1)), L: []api.Level{{Kind: api.PackedL, Size: maxSize, Pos: []int{0, 1}, Crd: []int{maxSize - 1}}, {Size: 2}}, V: make([]int64, 2)},
		{Shape: []int{0, maxSize}, F: form(dense(0), dense(1)), L: []api.Level{{}, {Size: maxSize}}},
		{Shape: []int{0, maxSize, maxSize}, F: form(packed(2), dense(1), dense(0)), L: []api.Level{{Kind: api.PackedL, Size: maxSize, Pos: []int{0, 0}}, {Size: maxSize}, {}}},
	} {
		if e := store.Check(x); e != api.OK {
			t.Errorf("Check of %v: got error %d", brief(x), e)
		}
	}
}

// TestCheckOfAllLists holds each list of four places, behind two, against the chapter's words.
func TestCheckOfAllLists(t *testing.T) {
	ahead := func(a, b [2]int) bool { return a[0] < b[0] || a[0] == b[0] && a[1] < b[1] }
	good := 0
	for n := range 3 * 3 * 3 * 3 * 2 * 2 * 2 * 2 {
		var l [4][2]int
		rest := n
		for k := range l {
			l[k] = [2]int{rest % 3, rest / 3 % 2}
			rest /= 6
		}
		for cut := range 5 {
			want := api.OK
			for k := 1; k < 4; k++ {
				if k != cut && !ahead(l[k-1], l[k]) {
					want = api.ErrArg
				}
			}
			if want == api.OK {
				good++
			}
			x := api.Tensor{Shape: []int{2, 3, 2}, F: form(dense(0), loose(1), single(2)), L: []api.Level{
				{Size: 2},
				{Kind: api.LooseL, Size: 3, Pos: []int{0, cut, 4}, Crd: []int{l[0][0], l[1][0], l[2][0], l[3][0]}},
				{Kind: api.SingleL, Size: 2, Crd: []int{l[0][1], l[1][1], l[2][1], l[3][1]}},
			}, V: make([]int64, 4)}
			if e := store.Check(x); e != want {
				t.Errorf("Check of %v: got error %d, want %d", x, e, want)
			}
		}
	}
	// So many lists of places out of six rise: of none and four, one and three, two and two, and so on.
	if want := 15 + 6*20 + 15*15 + 20*6 + 15; good != want {
		t.Errorf("%d lists rise, want %d", good, want)
	}
}

// checked is what is wrong with a tensor, as the chapter's words have it.
func checked(x api.Tensor) api.Errno {
	if _, e := box.Cells(x.Shape...); e != api.OK {
		return e
	}
	if !isForm(x.Shape, x.F) {
		return api.ErrShape
	}
	sizes := make([]int, len(x.F))
	for k, s := range x.F {
		sizes[k] = x.Shape[s.Mode]
		if s.Kind == api.BlockL {
			sizes[k] = s.Size
		}
		for _, b := range x.F[k+1:] {
			if b.Mode == s.Mode {
				sizes[k] /= b.Size
			}
		}
	}
	if slices.ContainsFunc(sizes, func(size int) bool { return size > maxSize }) {
		return api.ErrLarge
	}
	if !slices.EqualFunc(x.L, x.F, func(l api.Level, s api.Spec) bool { return l.Kind == s.Kind }) {
		return api.ErrArg
	}
	ahead := []int{1}
	for k, l := range x.L {
		if l.Size != sizes[k] {
			return api.ErrArg
		}
	}
	for k, l := range x.L {
		below, e := level.Below(l, ahead[k])
		if e != api.OK {
			return e
		}
		ahead = append(ahead, below)
	}
	if len(x.V) != ahead[len(x.L)] || !listsRise(x.L, ahead) {
		return api.ErrArg
	}
	return api.OK
}

// listsRise tells whether the places behind a loose level rise, of levels behind so many each.
func listsRise(l []api.Level, ahead []int) bool {
	k := slices.IndexFunc(l, func(x api.Level) bool { return x.Kind == api.LooseL })
	if k < 0 {
		return true
	}
	for p := range ahead[k] {
		children, _ := level.Children(l[k], ahead[k], p)
		var last []int
		for _, c := range children {
			row := []int{c.At}
			for j := k + 1; j < len(l); j++ {
				ones, _ := level.Children(l[j], ahead[j], c.N)
				row = append(row, ones[0].At)
			}
			if last != nil && slices.Compare(last, row) >= 0 {
				return false
			}
			last = row
		}
	}
	return true
}

// odd are tensors of x with one or two numbers that are others, and that may or may not be.
func odd(x api.Tensor, next func(below int) int, many int) []api.Tensor {
	var l []api.Tensor
	for range many {
		y := cloned(x)
		for range next(2) + 1 {
			oddOne(&y, next)
		}
		l = append(l, y)
	}
	return l
}

func oddOne(y *api.Tensor, next func(below int) int) {
	values := []int{-1, 0, 1, 2, 3, 4, 5, 6, maxSize, maxSize + 1, math.MinInt, math.MaxInt}
	n := values[next(len(values))]
	set := func(l []int) {
		if len(l) > 0 {
			l[next(len(l))] = n
		}
	}
	switch next(8) {
	case 0:
		set(y.Shape)
	case 1:
		y.V = y.V[:next(len(y.V)+1)]
	case 2:
		if len(y.F) > 0 {
			k := next(len(y.F))
			y.F[k] = []api.Spec{{Kind: n, Mode: y.F[k].Mode}, {Kind: y.F[k].Kind, Mode: n}, {Kind: y.F[k].Kind, Mode: y.F[k].Mode, Size: n}}[next(3)]
		}
	case 3:
		if k := next(len(y.L) + 1); k < len(y.L) {
			y.L[k] = y.L[next(len(y.L))]
		}
	case 4:
		if k := next(len(y.L) + 1); k < len(y.L) {
			y.L[k].Size = n
		}
	case 5:
		if k := next(len(y.L) + 1); k < len(y.L) {
			set(y.L[k].Pos)
		}
	default:
		if k := next(len(y.L) + 1); k < len(y.L) {
			set(y.L[k].Crd)
		}
	}
}

// TestOfOddOnes holds that no call goes wrong on what has odd numbers, and that each answers Check's error.
func TestOfOddOnes(t *testing.T) {
	next := counted(5)
	good := 0
	for _, x := range append(samples(t), slices.Repeat([]api.Tensor{list(), lists()}, 200)...) {
		for _, y := range odd(x, next, 5) {
			want := checked(y)
			if e := store.Check(y); e != want {
				t.Errorf("Check of %v: got error %d, want %d", y, e, want)
			}
			l, e := store.Read(y)
			_, ce := store.Counts(y)
			_, ee := store.Empty(y)
			_, _, ge := store.Get(y, make([]int, len(y.Shape))...)
			if want == api.OK {
				good++
				if cells, _ := box.Cells(y.Shape...); cells == 0 {
					ge = api.OK
				}
				if !sameEntries(l.E, entries(t, y)) {
					t.Errorf("Read of %v: got %v", y, l)
				}
			}
			if e != want || ce != want || ee != want || ge != want {
				t.Errorf("%v: got errors %d, %d, %d, %d, want %d", y, e, ce, ee, ge, want)
			}
		}
	}
	if good == 0 {
		t.Error("none of them may be")
	}
}

func TestCounts(t *testing.T) {
	for _, x := range []struct {
		t    api.Tensor
		want []int
	}{
		{csr(), []int{3, 3}}, {list(), []int{4, 4}}, {blocks(), []int{2, 2, 4, 12}}, {lists(), []int{2, 7, 7, 7}}, {one(), nil},
	} {
		if got, e := store.Counts(x.t); !slices.Equal(got, x.want) || e != api.OK {
			t.Errorf("Counts of %v: got %v, error %d; want %v", x.t, got, e, x.want)
		}
	}
	for _, x := range samples(t) {
		var want []int
		ahead := 1
		for _, l := range x.L {
			ahead, _ = level.Below(l, ahead)
			want = append(want, ahead)
		}
		if got, e := store.Counts(x); !slices.Equal(got, want) || e != api.OK {
			t.Errorf("Counts of %v: got %v, error %d; want %v", x, got, e, want)
		}
	}
}

// changed are tensors that are x but for one number.
func changed(x api.Tensor) []api.Tensor {
	var l []api.Tensor
	add := func(change func(y *api.Tensor)) {
		y := cloned(x)
		change(&y)
		l = append(l, y)
	}
	for k := range x.V {
		add(func(y *api.Tensor) { y.V[k]++ })
	}
	for k := range x.Shape {
		add(func(y *api.Tensor) { y.Shape[k]++ })
	}
	for k := range x.F {
		add(func(y *api.Tensor) { y.F[k].Kind++ })
		add(func(y *api.Tensor) { y.F[k].Mode++ })
		add(func(y *api.Tensor) { y.F[k].Size++ })
		add(func(y *api.Tensor) { y.L[k].Kind++ })
		add(func(y *api.Tensor) { y.L[k].Size++ })
		for n := range x.L[k].Pos {
			add(func(y *api.Tensor) { y.L[k].Pos[n]++ })
		}
		for n := range x.L[k].Crd {
			add(func(y *api.Tensor) { y.L[k].Crd[n]-- })
			add(func(y *api.Tensor) { y.L[k].Crd[n]++ })
		}
	}
	return l
}

// cloned is a tensor that shares nothing with x.
func cloned(x api.Tensor) api.Tensor {
	y := api.Tensor{Shape: slices.Clone(x.Shape), F: slices.Clone(x.F), L: slices.Clone(x.L), V: slices.Clone(x.V)}
	for k, l := range x.L {
		y.L[k].Pos, y.L[k].Crd = slices.Clone(l.Pos), slices.Clone(l.Crd)
	}
	return y
}

func TestSame(t *testing.T) {
	all := []api.Tensor{csr(), list(), blocks(), lists(), one()}
	for i, a := range all {
		for k, b := range all {
			if got := store.Same(a, cloned(b)); got != (i == k) {
				t.Errorf("Same of %v and %v: got %v", a, b, got)
			}
		}
		for _, b := range changed(a) {
			if store.Same(a, b) || store.Same(b, a) {
				t.Errorf("Same of %v and %v: got yes", a, b)
			}
		}
	}
	for _, x := range samples(t) {
		if !store.Same(x, cloned(x)) {
			t.Errorf("Same of %v and itself: got no", x)
		}
	}
	empty := api.Tensor{Shape: []int{0}, F: form(packed(0)), L: []api.Level{{Kind: api.PackedL, Pos: []int{0, 0}, Crd: []int{}}}, V: []int64{}}
	if !store.Same(empty, api.Tensor{Shape: []int{0}, F: form(packed(0)), L: []api.Level{{Kind: api.PackedL, Pos: []int{0, 0}}}}) {
		t.Error("Same: lists without elements are nil or empty")
	}
	if !store.Same(one(), api.Tensor{Shape: []int{}, F: form(), L: []api.Level{}, V: []int64{9}}) {
		t.Error("Same of a number: lists without elements are nil or empty")
	}
}

func TestSameOfStoredOtherwise(t *testing.T) {
	// The same numbers at the same places, stored in another order of levels, or with an entry of 0 more.
	rows := api.Tensor{Shape: []int{2, 2}, F: form(dense(0), dense(1)), L: []api.Level{{Size: 2}, {Size: 2}}, V: []int64{1, 2, 2, 1}}
	columns := but(rows, func(x *api.Tensor) { x.F = form(dense(1), dense(0)) })
	short := api.Tensor{Shape: []int{3}, F: form(packed(0)), L: []api.Level{{Kind: api.PackedL, Size: 3, Pos: []int{0, 1}, Crd: []int{1}}}, V: []int64{4}}
	long := api.Tensor{Shape: []int{3}, F: form(packed(0)), L: []api.Level{{Kind: api.PackedL, Size: 3, Pos: []int{0, 2}, Crd: []int{1, 2}}}, V: []int64{4, 0}}
	if store.Same(rows, columns) || store.Same(columns, rows) || store.Same(short, long) || store.Same(long, short) {
		t.Error("Same of what is stored otherwise: got yes")
	}
	for _, x := range bads() {
		if store.Same(x.t, x.t) || store.Same(x.t, csr()) || store.Same(csr(), x.t) {
			t.Errorf("%s: Same of %v: got yes", x.what, brief(x.t))
		}
	}
}

func TestEmpty(t *testing.T) {
	for _, x := range samples(t) {
		want := true
		for _, v := range x.V {
			want = want && v == 0
		}
		if got, e := store.Empty(x); got != want || e != api.OK {
			t.Errorf("Empty of %v: got %v, error %d", x, got, e)
		}
		x.V = make([]int64, len(x.V))
		if got, e := store.Empty(x); !got || e != api.OK {
			t.Errorf("Empty of %v: got %v, error %d", x, got, e)
		}
		for k := range x.V {
			x.V[k] = -1
			if got, e := store.Empty(x); got || e != api.OK {
				t.Errorf("Empty of %v: got %v, error %d", x, got, e)
			}
			x.V[k] = 0
		}
	}
}

// P5.3

func TestRead(t *testing.T) {
	for _, x := range []struct {
		t    api.Tensor
		want []api.Entry
	}{
		{csr(), []api.Entry{{C: []int{0, 0}, V: 5}, {C: []int{0, 3}, V: 6}, {C: []int{2, 1}, V: 7}}},
		{list(), []api.Entry{{C: []int{2, 0}, V: 5}, {C: []int{0, 1}, V: 6}, {C: []int{2, 1}, V: 0}, {C: []int{1, 3}, V: -7}}},
		{blocks(), []api.Entry{
			{C: []int{0, 3}, V: 1}, {C: []int{0, 4}, V: 2}, {C: []int{0, 5}, V: 3}, {C: []int{1, 3}, V: 4}, {C: []int{1, 4}, V: 5}, {C: []int{1, 5}, V: 6},
			{C: []int{2, 0}, V: 7}, {C: []int{2, 1}, V: 8}, {C: []int{2, 2}, V: 9}, {C: []int{3, 0}, V: 10}, {C: []int{3, 1}, V: 11}, {C: []int{3, 2}, V: 12},
		}},
		{lists(), []api.Entry{
			{C: []int{0, 0, 1, 1}, V: 1}, {C: []int{0, 0, 3, 1}, V: 2}, {C: []int{0, 2, 0, 1}, V: 3}, {C: []int{0, 0, 0, 4}, V: 4},
			{C: []int{1, 2, 3, 0}, V: 5}, {C: []int{1, 0, 1, 1}, V: 6}, {C: []int{1, 0, 3, 1}, V: 7},
		}},
		{one(), []api.Entry{{V: 9}}},
	} {
		got, e := store.Read(x.t)
		if e != api.OK || !slices.Equal(got.Shape, x.t.Shape) || !sameEntries(got.E, x.want) {
			t.Errorf("Read of %v: got %v, error %d; want %v", x.t, got, e, x.want)
		}
	}
	for _, x := range samples(t) {
		got, e := store.Read(x)
		if want := entries(t, x); e != api.OK || !slices.Equal(got.Shape, x.Shape) || !sameEntries(got.E, want) {
			t.Errorf("Read of %v: got %v, error %d; want %v", x, got, e, want)
		}
	}
}

// TestReadOfMost holds that entries are told of a level with as many ahead as there may be, and that there may be more of them than a list has.
func TestReadOfMost(t *testing.T) {
	rows := api.Tensor{Shape: []int{api.MaxBelow, 16}, F: form(dense(0), packed(1)), L: []api.Level{{Size: api.MaxBelow}, {Kind: api.PackedL, Size: 16, Pos: []int{0}}}}
	for p := range api.MaxBelow {
		if p%16 == 5 {
			rows.L[1].Crd = append(rows.L[1].Crd, p/16%16)
			rows.V = append(rows.V, int64(p))
		}
		rows.L[1].Pos = append(rows.L[1].Pos, len(rows.V))
	}
	x, e := store.Read(rows)
	if e != api.OK || len(x.E) != api.MaxCrd {
		t.Fatalf("Read of many rows: got %d entries, error %d", len(x.E), e)
	}
	for n, s := range x.E {
		if p := n*16 + 5; s.V != int64(p) || !slices.Equal(s.C, []int{p, n % 16}) {
			t.Fatalf("Read of many rows: got %v, want %d at %d, %d", s, p, p, n%16)
		}
	}
	whole := api.Tensor{Shape: []int{1 << 10, 1 << 10}, F: form(dense(1), dense(0)), L: []api.Level{{Size: 1 << 10}, {Size: 1 << 10}}, V: make([]int64, api.MaxBelow)}
	whole.V[5<<10+3] = 7
	if x, e = store.Read(whole); e != api.OK || len(x.E) != api.MaxBelow || x.E[5<<10+3].V != 7 || !slices.Equal(x.E[5<<10+3].C, []int{3, 5}) {
		t.Errorf("Read of as many as there may be: got %d entries, error %d", len(x.E), e)
	}
}

func TestDense(t *testing.T) {
	for _, x := range []struct {
		t    api.Tensor
		want []int64
	}{
		{csr(), []int64{5, 0, 0, 6, 0, 0, 0, 0, 0, 7, 0, 0}},
		{list(), []int64{0, 6, 0, 0, 0, 0, 0, -7, 5, 0, 0, 0}},
		{blocks(), []int64{0, 0, 0, 1, 2, 3, 0, 0, 0, 4, 5, 6, 7, 8, 9, 0, 0, 0, 10, 11, 12, 0, 0, 0}},
		{one(), []int64{9}},
	} {
		got, e := store.Dense(x.t)
		if e != api.OK || !slices.Equal(got.Shape, x.t.Shape) || !slices.Equal(got.V, x.want) {
			t.Errorf("Dense of %v: got %v, error %d; want %v", x.t, got, e, x.want)
		}
	}
	for _, x := range samples(t) {
		want, _ := box.Zero(x.Shape...)
		for _, s := range entries(t, x) {
			n, _ := box.At(x.Shape, s.C)
			want.V[n] = s.V
		}
		if got, e := store.Dense(x); e != api.OK || !box.Same(got, want) {
			t.Errorf("Dense of %v: got %v, error %d; want %v", x, got, e, want)
		}
	}
}

func TestDenseOfMost(t *testing.T) {
	few := api.Level{Kind: api.PackedL, Size: api.MaxLaid, Pos: []int{0, 1}, Crd: []int{api.MaxLaid - 1}}
	d, e := store.Dense(api.Tensor{Shape: []int{api.MaxLaid}, F: form(packed(0)), L: []api.Level{few}, V: []int64{3}})
	if e != api.OK || len(d.V) != api.MaxLaid || d.V[api.MaxLaid-1] != 3 {
		t.Errorf("Dense of as many cells as there may be: got %d, error %d", len(d.V), e)
	}
	all := api.Tensor{Shape: []int{1 << 8, 1 << 8}, F: form(dense(0), dense(1)), L: []api.Level{{Size: 1 << 8}, {Size: 1 << 8}}, V: make([]int64, api.MaxLaid)}
	for n := range all.V {
		all.V[n] = int64(n + 1)
	}
	if d, e := store.Dense(all); e != api.OK || !slices.Equal(d.V, all.V) {
		t.Errorf("Dense of numbers in all cells: got %d, error %d", len(d.V), e)
	}
	few.Size++
	large := []api.Tensor{
		{Shape: []int{api.MaxLaid + 1}, F: form(packed(0)), L: []api.Level{few}, V: []int64{3}},
		{Shape: []int{api.MaxLaid + 1}, F: form(dense(0)), L: []api.Level{{Size: api.MaxLaid + 1}}, V: make([]int64, api.MaxLaid+1)},
		{Shape: []int{maxSize, 1 << 30}, F: form(loose(0), single(1)), L: []api.Level{{Kind: api.LooseL, Size: maxSize, Pos: []int{0, 0}}, {Kind: api.SingleL, Size: 1 << 30}}},
	}
	for _, x := range large {
		if d, e := store.Dense(x); e != api.ErrLarge || len(d.Shape) != 0 || len(d.V) != 0 {
			t.Errorf("Dense of %v: got shape %v, %d numbers, error %d", brief(x), d.Shape, len(d.V), e)
		}
		if e := store.Check(x); e != api.OK {
			t.Errorf("Check of %v: got error %d", brief(x), e)
		}
		if y, e := store.Read(x); e != api.OK || len(y.E) != len(x.V) {
			t.Errorf("Read of %v: got %d entries, error %d", brief(x), len(y.E), e)
		}
	}
}

func TestGet(t *testing.T) {
	for _, x := range samples(t) {
		at := map[[4]int]api.Entry{}
		for _, s := range entries(t, x) {
			at[key(s.C)] = s
		}
		for _, c := range cells(t, x.Shape) {
			want, is := at[key(c)]
			if v, was, e := store.Get(x, c...); v != want.V || was != is || e != api.OK {
				t.Errorf("Get of %v at %v: got %d, %v, error %d; want %d, %v", x, c, v, was, e, want.V, is)
			}
		}
	}
	// An entry of 0 is there.
	if v, is, e := store.Get(list(), 2, 1); v != 0 || !is || e != api.OK {
		t.Errorf("Get of an entry of 0: got %d, %v, error %d", v, is, e)
	}
	if v, is, e := store.Get(one()); v != 9 || !is || e != api.OK {
		t.Errorf("Get without modes: got %d, %v, error %d", v, is, e)
	}
}

func TestGetOfMost(t *testing.T) {
	// All loose ones are at one place, and the single ones tell them apart.
	long := api.Tensor{Shape: []int{3, 2 * api.MaxCrd}, F: form(loose(0), single(1)), L: []api.Level{
		{Kind: api.LooseL, Size: 3, Pos: []int{0, api.MaxCrd}, Crd: slices.Repeat([]int{1}, api.MaxCrd)}, {Kind: api.SingleL, Size: 2 * api.MaxCrd},
	}}
	for n := range api.MaxCrd {
		long.L[1].Crd = append(long.L[1].Crd, 2*n)
		long.V = append(long.V, int64(n))
	}
	for _, n := range []int{0, 1, 777, api.MaxCrd - 1} {
		if v, is, e := store.Get(long, 1, 2*n); v != int64(n) || !is || e != api.OK {
			t.Errorf("Get of a long list at %d: got %d, %v, error %d", 2*n, v, is, e)
		}
		for _, c := range [][]int{{1, 2*n + 1}, {0, 2 * n}, {2, 2 * n}} {
			if v, is, e := store.Get(long, c...); v != 0 || is || e != api.OK {
				t.Errorf("Get of a long list at %v: got %d, %v, error %d", c, v, is, e)
			}
		}
	}
	far := api.Tensor{Shape: []int{1 << 40, 1 << 20}, F: form(packed(0), packed(1), block(0, 1<<10), block(1, 2)), L: []api.Level{
		{Kind: api.PackedL, Size: 1 << 30, Pos: []int{0, 1}, Crd: []int{1<<30 - 1}}, {Kind: api.PackedL, Size: 1 << 19, Pos: []int{0, 1}, Crd: []int{5}},
		{Kind: api.BlockL, Size: 1 << 10}, {Kind: api.BlockL, Size: 2},
	}, V: make([]int64, 1<<11)}
	far.V[1<<11-1] = 8
	if v, is, e := store.Get(far, 1<<40-1, 11); v != 8 || !is || e != api.OK {
		t.Errorf("Get of a far place: got %d, %v, error %d", v, is, e)
	}
	if v, is, e := store.Get(far, 1<<40-1-1<<10, 11); v != 0 || is || e != api.OK {
		t.Errorf("Get of a place one block ahead: got %d, %v, error %d", v, is, e)
	}
}

func TestGetErrors(t *testing.T) {
	for _, c := range [][]int{nil, {1}, {1, 1, 0}, {3, 0}, {0, 4}, {-1, 0}, {0, -1}, {math.MinInt, 0}, {0, math.MaxInt}} {
		for _, x := range []api.Tensor{csr(), list()} {
			if v, is, e := store.Get(x, c...); v != 0 || is || e != api.ErrRange {
				t.Errorf("Get of %v at %v: got %d, %v, error %d", x, c, v, is, e)
			}
		}
	}
	if v, is, e := store.Get(one(), 0); v != 0 || is || e != api.ErrRange {
		t.Errorf("Get without modes at 0: got %d, %v, error %d", v, is, e)
	}
	none := api.Tensor{Shape: []int{0}, F: form(dense(0)), L: []api.Level{{}}}
	if v, is, e := store.Get(none, 0); v != 0 || is || e != api.ErrRange {
		t.Errorf("Get of no cells: got %d, %v, error %d", v, is, e)
	}
}

func TestOfWhatMayNotBe(t *testing.T) {
	for _, x := range bads() {
		if y, e := store.Read(x.t); len(y.Shape) != 0 || len(y.E) != 0 || e != x.e {
			t.Errorf("%s: Read of %v: got %d entries, error %d, want %d", x.what, brief(x.t), len(y.E), e, x.e)
		}
		if d, e := store.Dense(x.t); len(d.Shape) != 0 || len(d.V) != 0 || e != x.e {
			t.Errorf("%s: Dense of %v: got %d numbers, error %d, want %d", x.what, brief(x.t), len(d.V), e, x.e)
		}
		if n, e := store.Counts(x.t); len(n) != 0 || e != x.e {
			t.Errorf("%s: Counts of %v: got %v, error %d, want %d", x.what, brief(x.t), n, e, x.e)
		}
		if none, e := store.Empty(x.t); none || e != x.e {
			t.Errorf("%s: Empty of %v: got %v, error %d, want %d", x.what, brief(x.t), none, e, x.e)
		}
		// Check's error is ahead of there being no such place.
		for _, c := range [][]int{nil, {-1}, make([]int, len(x.t.Shape))} {
			if v, is, e := store.Get(x.t, c...); v != 0 || is || e != x.e {
				t.Errorf("%s: Get of %v at %v: got %d, %v, error %d, want %d", x.what, brief(x.t), c, v, is, e, x.e)
			}
		}
	}
}

// P5.4

func TestWhatFollows(t *testing.T) {
	for _, x := range samples(t) {
		y, e := store.Read(x)
		if e != api.OK || len(y.E) != len(x.V) {
			t.Fatalf("Read of %v: got %d entries, error %d", x, len(y.E), e)
		}
		seen := map[[4]int]int{}
		for n, s := range y.E {
			if seen[key(s.C)]++; seen[key(s.C)] > 1 {
				t.Errorf("Read of %v: two entries are at %v", x, s.C)
			}
			if s.V != x.V[n] {
				t.Errorf("Read of %v: got %v, want the number %d", x, s, x.V[n])
			}
		}
		d, e := store.Dense(x)
		if want, we := coo.Dense(y); e != api.OK || we != api.OK || !box.Same(d, want) {
			t.Errorf("Dense of %v: got %v, error %d; want %v", x, d, e, want)
		}
		for _, c := range cells(t, x.Shape) {
			want, _ := box.Get(d, c...)
			v, is, e := store.Get(x, c...)
			if v != want || is != (seen[key(c)] == 1) || e != api.OK {
				t.Errorf("Get of %v at %v: got %d, %v, error %d; want %d", x, c, v, is, e, want)
			}
		}
	}
}

// R2: what is handed in is left as it is, and what is told is new.

// roomy is a list with room behind it, that must not be written to.
func roomy[T any](l []T, mark T) []T {
	return append(slices.Clone(l), mark, mark)[:len(l)]
}

// roomyTensor is a tensor whose lists all have room behind them.
func roomyTensor(x api.Tensor) api.Tensor {
	y := api.Tensor{Shape: roomy(x.Shape, 77), F: roomy(x.F, api.Spec{Kind: 77}), L: roomy(x.L, api.Level{Kind: 77}), V: roomy(x.V, 77)}
	for k, l := range x.L {
		y.L[k].Pos, y.L[k].Crd = roomy(l.Pos, 77), roomy(l.Crd, 77)
	}
	return y
}

// intact tells whether y is x as roomyTensor made it.
func intact(x, y api.Tensor) bool {
	x = roomyTensor(x)
	ok := slices.Equal(x.Shape[:len(x.Shape)+2], y.Shape[:len(y.Shape)+2]) && slices.Equal(x.F[:len(x.F)+2], y.F[:len(y.F)+2]) && slices.Equal(x.V[:len(x.V)+2], y.V[:len(y.V)+2])
	for k, l := range x.L[:len(x.L)+2] {
		m := y.L[:len(x.L)+2][k]
		ok = ok && level.Same(l, m)
		if k < len(x.L) {
			ok = ok && slices.Equal(l.Pos[:len(l.Pos)+2], m.Pos[:len(m.Pos)+2]) && slices.Equal(l.Crd[:len(l.Crd)+2], m.Crd[:len(m.Crd)+2])
		}
	}
	return ok
}

// fill writes into a list, and into what is behind it.
func fill[T any](l []T, v T) {
	for k := range l[:cap(l)] {
		l[:cap(l)][k] = v
	}
}

func TestNothingIsChanged(t *testing.T) {
	for _, want := range []api.Tensor{csr(), list(), blocks(), lists(), one()} {
		x := roomyTensor(want)
		store.Form(x.Shape, x.F...)
		store.Check(x)
		store.Same(x, x)
		store.Empty(x)
		c := roomy(make([]int, len(x.Shape)), 77)
		store.Get(x, c...)
		sizes, _ := store.Sizes(x.Shape, x.F...)
		counts, _ := store.Counts(x)
		d, _ := store.Dense(x)
		y, e := store.Read(x)
		if e != api.OK || !intact(want, x) || slices.Max(append(slices.Clone(c), 0)) != 0 || c[:len(c)+2][len(c)] != 77 {
			t.Fatalf("%v is changed, error %d", want, e)
		}
		fill(sizes, -9)
		fill(counts, -9)
		fill(d.Shape, -9)
		fill(d.V, -9)
		fill(y.Shape, -9)
		for _, s := range y.E {
			fill(s.C, -9)
		}
		fill(y.E, api.Entry{})
		if !intact(want, x) {
			t.Errorf("%v is changed by writing into what is told", want)
		}
	}
}

func TestWhatIsToldIsNew(t *testing.T) {
	for _, want := range []api.Tensor{csr(), list(), blocks(), lists()} {
		x := cloned(want)
		sizes, _ := store.Sizes(x.Shape, x.F...)
		counts, _ := store.Counts(x)
		d, _ := store.Dense(x)
		y, e := store.Read(x)
		fill(x.Shape, -9)
		fill(x.F, api.Spec{Kind: -9})
		for _, l := range x.L {
			fill(l.Pos, -9)
			fill(l.Crd, -9)
		}
		fill(x.V, -9)
		if !slices.Equal(y.Shape, want.Shape) || !sameEntries(y.E, entries(t, want)) || e != api.OK {
			t.Errorf("Read of %v, written to behind the call: got %v, error %d", want, y, e)
		}
		// Nor do two of its lists share memory.
		fill(y.Shape, -1)
		for n, s := range y.E {
			fill(s.C, n)
		}
		for n, s := range y.E {
			if slices.Min(s.C) != n || slices.Max(s.C) != n {
				t.Errorf("Read of %v: the place of entry %d is written to by another one", want, n)
			}
		}
		fill(d.Shape, -1)
		again, _ := store.Dense(want)
		moreSizes, _ := store.Sizes(want.Shape, want.F...)
		moreCounts, _ := store.Counts(want)
		if !slices.Equal(d.V, again.V) || !slices.Equal(again.Shape, want.Shape) || !slices.Equal(sizes, moreSizes) || !slices.Equal(counts, moreCounts) {
			t.Errorf("%v: asked once more, it is another one", want)
		}
	}
}
