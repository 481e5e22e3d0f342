package coo_test

import (
	"math"
	"reflect"
	"slices"
	"testing"

	"purfle/api"
	"purfle/box"
	"purfle/coo"
)

// shapes are some of each number of modes, with modes of 0 and 1 places, and of as many as may be told apart.
var shapes = [][]int{
	nil,
	{0}, {1}, {5},
	{1, 1}, {2, 3}, {3, 2}, {4, 0}, {0, 4},
	{2, 3, 4}, {4, 1, 3}, {3, 0, 2},
	{1, 1, 1, 1}, {2, 3, 4, 5}, {3, 1, 2, 2}, {2, 2, 0, 2},
}

type bad struct {
	x api.Coo
	e api.Errno
}

// badLists are lists that may not be, and the error that the chapter names first.
func badLists() []bad {
	off := []api.Entry{{C: []int{-1}, V: 1}}
	many := make([]api.Entry, api.MaxList+1)
	l := []bad{
		{api.Coo{Shape: []int{-1}}, api.ErrArg},
		{api.Coo{Shape: []int{2, math.MinInt}, E: off}, api.ErrArg},
		{api.Coo{Shape: []int{1, 1, 1, 1, 1}}, api.ErrArg},
		{api.Coo{Shape: []int{1 << 62, 1 << 62, -1}}, api.ErrArg},
		{api.Coo{Shape: []int{-1}, E: many}, api.ErrArg},
		{api.Coo{Shape: []int{1 << 62}}, api.ErrLarge},
		{api.Coo{Shape: []int{1 << 31, 1 << 31}, E: off}, api.ErrLarge},
		{api.Coo{E: many}, api.ErrLarge},
		{api.Coo{Shape: []int{2}, E: many}, api.ErrLarge},
		{api.Coo{Shape: []int{0}, E: many}, api.ErrLarge},
	}
	for _, x := range []struct{ shape, c []int }{
		{nil, []int{0}},
		{[]int{1}, nil},
		{[]int{0}, []int{0}},
		{[]int{2}, []int{2}},
		{[]int{2}, []int{-1}},
		{[]int{2}, []int{math.MinInt}},
		{[]int{2}, []int{math.MaxInt}},
		{[]int{2, 3}, []int{1}},
		{[]int{2, 3}, []int{1, 2, 0}},
		{[]int{2, 3}, []int{2, 1}},
		{[]int{2, 3}, []int{0, 3}},
		{[]int{2, 3}, []int{1, -1}},
		{[]int{4, 0}, []int{0, 0}},
		{[]int{0, math.MaxInt, math.MaxInt}, []int{0, 0, 0}},
	} {
		l = append(l, bad{api.Coo{Shape: x.shape, E: []api.Entry{{C: x.c, V: 1}}}, api.ErrRange})
		l = append(l, bad{api.Coo{Shape: x.shape, E: []api.Entry{{C: x.c}}}, api.ErrRange})
	}
	// The last entry alone has no place.
	return append(l, bad{list(2, 3, [3]int{1, 2, 3}, [3]int{0, 0, 1}, [3]int{0, 3, 1}), api.ErrRange})
}

// badOrders are some that are no order of as many modes.
func badOrders(rank int) [][]int {
	l := [][]int{{-1}, {1}, {0, 0}, {1, 2}, {0, 2}, {0, 1, 1}, {0, 1, 2, 2}, {1, 2, 3, 4}, {math.MinInt}, {math.MaxInt, 0}, make([]int, 100)}
	for n := 1; n < 6; n++ {
		if n != rank {
			l = append(l, plainOrder(n))
		}
	}
	return l
}

func plainOrder(n int) []int {
	l := make([]int, n)
	for k := range l {
		l[k] = k
	}
	return l
}

// orders are all orders of n modes.
func orders(n int) [][]int {
	if n == 0 {
		return [][]int{nil}
	}
	var l [][]int
	for _, o := range orders(n - 1) {
		for k := range n {
			l = append(l, slices.Insert(slices.Clone(o), k, n-1))
		}
	}
	return l
}

// mixed is a list of n entries of a shape, at places that come in no order, some more than once, with numbers from -2 to 2, and some that are told apart.
func mixed(t *testing.T, salt, n int, shape ...int) api.Coo {
	t.Helper()
	cells, e := box.Cells(shape...)
	if e != api.OK {
		t.Fatalf("Cells(%v): error %d", shape, e)
	}
	x := api.Coo{Shape: slices.Clone(shape)}
	if cells == 0 {
		return x
	}
	s := uint64(salt)
	next := func(below int) int {
		s = s*6364136223846793005 + 1442695040888963407
		return int(s>>33) % below
	}
	for range n {
		c, e := box.Coord(shape, next(cells))
		if e != api.OK {
			t.Fatalf("Coord of %v: error %d", shape, e)
		}
		v := int64(next(5)) - 2
		if next(8) == 0 {
			v = int64(s)
		}
		x.E = append(x.E, api.Entry{C: c, V: v})
	}
	return x
}

// samples are lists of all shapes, from without entries to with more than there are cells.
func samples(t *testing.T) []api.Coo {
	t.Helper()
	var l []api.Coo
	for k, shape := range shapes {
		for _, n := range []int{0, 1, 7, 40, 300} {
			l = append(l, mixed(t, k+1000*n, n, shape...))
		}
	}
	return l
}

// numbered is a list whose entries' numbers tell where they stood.
func numbered(x api.Coo) api.Coo {
	y := api.Coo{Shape: x.Shape}
	for n, s := range x.E {
		y.E = append(y.E, api.Entry{C: s.C, V: int64(n)})
	}
	return y
}

// key is a place that can be held against another one.
func key(c []int) [4]int {
	k := [4]int{-1, -1, -1, -1}
	copy(k[:], c)
	return k
}

// ahead tells whether a place is ahead of another one, as the chapter's words have it.
func ahead(a, b, order []int) bool {
	for _, mode := range order {
		if a[mode] != b[mode] {
			return a[mode] < b[mode]
		}
	}
	return false
}

func must(t *testing.T, x api.Coo, e api.Errno) api.Coo {
	t.Helper()
	if e != api.OK {
		t.Fatalf("got error %d", e)
	}
	if e := coo.Check(x); e != api.OK {
		t.Fatalf("a list that is told may not be: error %d", e)
	}
	return x
}

func wantList(t *testing.T, what string, got api.Coo, e api.Errno, want api.Coo) {
	t.Helper()
	same := slices.Equal(got.Shape, want.Shape) && slices.EqualFunc(got.E, want.E, func(a, b api.Entry) bool {
		return a.V == b.V && slices.Equal(a.C, b.C)
	})
	if e != api.OK || !same {
		t.Errorf("%s: got %v, error %d; want %v", what, got, e, want)
	}
}

// wantError holds that there is just that error, and nothing beside it.
func wantError(t *testing.T, what string, x api.Coo, e, want api.Errno) {
	t.Helper()
	if e != want {
		t.Errorf("%s: got error %d, want %d", what, e, want)
	}
	if len(x.Shape) != 0 || len(x.E) != 0 {
		t.Errorf("%s: got %v beside an error", what, x)
	}
}

// list is a list of a matrix: of each entry its place, and its number.
func list(rows, columns int, entries ...[3]int) api.Coo {
	x := api.Coo{Shape: []int{rows, columns}}
	for _, n := range entries {
		x.E = append(x.E, api.Entry{C: []int{n[0], n[1]}, V: int64(n[2])})
	}
	return x
}

// P2.1

func TestCheck(t *testing.T) {
	most := make([]api.Entry, api.MaxList)
	for _, x := range append(samples(t),
		api.Coo{},
		api.Coo{Shape: []int{}, E: []api.Entry{{C: []int{}, V: 1}, {V: 2}}},
		api.Coo{E: most},
		api.Coo{Shape: []int{1<<62 - 1}, E: []api.Entry{{C: []int{1<<62 - 2}}, {C: []int{0}}}},
		api.Coo{Shape: []int{0, math.MaxInt, math.MaxInt}},
		api.Coo{Shape: []int{1 << 31, 1<<31 - 1}, E: []api.Entry{{C: []int{1<<31 - 1, 1<<31 - 2}, V: 1}}},
	) {
		if e := coo.Check(x); e != api.OK {
			t.Errorf("Check of shape %v, %d entries: got error %d", x.Shape, len(x.E), e)
		}
	}
	for _, b := range badLists() {
		if e := coo.Check(b.x); e != b.e {
			t.Errorf("Check of shape %v, %d entries: got error %d, want %d", b.x.Shape, len(b.x.E), e, b.e)
		}
	}
}

func TestSame(t *testing.T) {
	all := samples(t)
	for i, a := range all {
		for k, b := range samples(t) {
			// Without cells, and without entries, lists of one shape are the same.
			want := i == k || slices.Equal(a.Shape, b.Shape) && len(a.E)+len(b.E) == 0
			if got := coo.Same(a, b); got != want {
				t.Errorf("Same of %v and %v: got %v", a, b, got)
			}
		}
	}
	a := list(2, 3, [3]int{1, 2, 5}, [3]int{0, 1, 4}, [3]int{1, 2, 0})
	for n, b := range []api.Coo{
		list(2, 4, [3]int{1, 2, 5}, [3]int{0, 1, 4}, [3]int{1, 2, 0}),
		list(2, 3, [3]int{0, 1, 4}, [3]int{1, 2, 5}, [3]int{1, 2, 0}),
		list(2, 3, [3]int{1, 2, 0}, [3]int{0, 1, 4}, [3]int{1, 2, 5}),
		list(2, 3, [3]int{1, 2, 5}, [3]int{0, 1, 4}),
		list(2, 3, [3]int{1, 2, 5}, [3]int{0, 1, 4}, [3]int{1, 2, 0}, [3]int{1, 2, 0}),
		list(2, 3, [3]int{1, 2, 5}, [3]int{0, 1, 4}, [3]int{1, 1, 0}),
		list(2, 3, [3]int{1, 2, 5}, [3]int{0, 1, 4}, [3]int{0, 2, 0}),
		list(2, 3, [3]int{1, 2, 5}, [3]int{0, 1, 3}, [3]int{1, 2, 0}),
		{Shape: []int{2, 3}},
		{},
	} {
		if coo.Same(a, b) || coo.Same(b, a) {
			t.Errorf("Same: %d is another one", n)
		}
	}
	if !coo.Same(api.Coo{E: []api.Entry{{V: 3}}}, api.Coo{Shape: []int{}, E: []api.Entry{{C: []int{}, V: 3}}}) {
		t.Error("Same: a place of no modes is nil or empty")
	}
	if !coo.Same(api.Coo{Shape: []int{2}, E: []api.Entry{}}, api.Coo{Shape: []int{2}}) {
		t.Error("Same: no entries are nil or empty")
	}
	for _, b := range badLists() {
		if coo.Same(b.x, b.x) || coo.Same(b.x, a) || coo.Same(a, b.x) {
			t.Errorf("Same of shape %v, %d entries, that may not be", b.x.Shape, len(b.x.E))
		}
	}
}

// P2.2

func TestSort(t *testing.T) {
	x := list(3, 4, [3]int{2, 1, 1}, [3]int{0, 3, 2}, [3]int{2, 1, 3}, [3]int{1, 0, 0}, [3]int{2, 1, -1}, [3]int{2, 0, 4})
	byRows := list(3, 4, [3]int{0, 3, 2}, [3]int{1, 0, 0}, [3]int{2, 0, 4}, [3]int{2, 1, 1}, [3]int{2, 1, 3}, [3]int{2, 1, -1})
	byColumns := list(3, 4, [3]int{1, 0, 0}, [3]int{2, 0, 4}, [3]int{2, 1, 1}, [3]int{2, 1, 3}, [3]int{2, 1, -1}, [3]int{0, 3, 2})
	got, e := coo.Sort(x)
	wantList(t, "Sort", got, e, byRows)
	got, e = coo.Sort(x, []int{}...)
	wantList(t, "Sort, no order named", got, e, byRows)
	got, e = coo.Sort(x, 0, 1)
	wantList(t, "Sort by 0, 1", got, e, byRows)
	got, e = coo.Sort(x, 1, 0)
	wantList(t, "Sort by 1, 0", got, e, byColumns)
	got, e = coo.Sort(api.Coo{E: []api.Entry{{V: 2}, {V: 1}, {V: 2}, {V: 0}}})
	wantList(t, "Sort of no modes", got, e, api.Coo{E: []api.Entry{{V: 2}, {V: 1}, {V: 2}, {V: 0}}})
	got, e = coo.Sort(api.Coo{Shape: []int{0, 3}}, 1, 0)
	wantList(t, "Sort of no entries", got, e, api.Coo{Shape: []int{0, 3}})
}

// isSorted holds that y has the numbered entries of x, in order.
func isSorted(t *testing.T, x, y api.Coo, order []int) {
	t.Helper()
	if !slices.Equal(x.Shape, y.Shape) || len(x.E) != len(y.E) {
		t.Fatalf("Sort of %v by %v: got shape %v, %d entries", x, order, y.Shape, len(y.E))
	}
	seen := make([]bool, len(x.E))
	for n, s := range y.E {
		if s.V < 0 || int(s.V) >= len(seen) || seen[s.V] || !slices.Equal(x.E[s.V].C, s.C) {
			t.Fatalf("Sort of %v by %v: got %v, that is none of its entries, or once more", x, order, s)
		}
		seen[s.V] = true
		if n == 0 {
			continue
		}
		last := y.E[n-1]
		if ahead(s.C, last.C, order) || slices.Equal(s.C, last.C) && s.V < last.V {
			t.Fatalf("Sort of %v by %v: %v stands ahead of %v", x, order, last, s)
		}
	}
}

func TestSortByAllOrders(t *testing.T) {
	for _, x := range samples(t) {
		x = numbered(x)
		y, e := coo.Sort(x)
		isSorted(t, x, must(t, y, e), plainOrder(len(x.Shape)))
		for _, order := range orders(len(x.Shape)) {
			y, e := coo.Sort(x, order...)
			isSorted(t, x, must(t, y, e), order)
		}
	}
}

func TestSortOfMost(t *testing.T) {
	x := numbered(mixed(t, 7, api.MaxList, 40, 30, 20, 10))
	y, e := coo.Sort(x, 2, 0, 3, 1)
	isSorted(t, x, must(t, y, e), []int{2, 0, 3, 1})
	large := api.Coo{Shape: []int{1<<62 - 1}, E: []api.Entry{{C: []int{1<<62 - 2}, V: 1}, {C: []int{1<<62 - 3}, V: 2}, {C: []int{0}, V: 3}}}
	y, e = coo.Sort(large, 0)
	wantList(t, "Sort of many places", y, e, api.Coo{Shape: large.Shape, E: []api.Entry{large.E[2], large.E[1], large.E[0]}})
}

func TestJoin(t *testing.T) {
	line := api.Coo{Shape: []int{2}, E: []api.Entry{{C: []int{1}, V: 3}, {C: []int{0}, V: 2}, {C: []int{1}, V: 4}}}
	got, e := coo.Join(line)
	wantList(t, "Join", got, e, api.Coo{Shape: []int{2}, E: []api.Entry{{C: []int{0}, V: 2}, {C: []int{1}, V: 7}}})
	x := list(3, 4, [3]int{2, 1, 1}, [3]int{0, 3, 2}, [3]int{2, 1, 3}, [3]int{1, 0, 0}, [3]int{0, 3, -2}, [3]int{2, 0, 4}, [3]int{2, 1, 5})
	got, e = coo.Join(x)
	wantList(t, "Join that keeps sums of 0", got, e, list(3, 4, [3]int{0, 3, 0}, [3]int{1, 0, 0}, [3]int{2, 0, 4}, [3]int{2, 1, 9}))
	got, e = coo.Join(x, 1, 0)
	wantList(t, "Join by 1, 0", got, e, list(3, 4, [3]int{1, 0, 0}, [3]int{2, 0, 4}, [3]int{2, 1, 9}, [3]int{0, 3, 0}))
	got, e = coo.Join(api.Coo{E: []api.Entry{{V: 5}, {V: -5}, {V: 1}}})
	wantList(t, "Join of no modes", got, e, api.Coo{E: []api.Entry{{V: 1}}})
	got, e = coo.Join(api.Coo{})
	wantList(t, "Join of no entries", got, e, api.Coo{})
	around := api.Coo{Shape: []int{1}, E: []api.Entry{{C: []int{0}, V: math.MaxInt64}, {C: []int{0}, V: 2}}}
	got, e = coo.Join(around)
	wantList(t, "Join that goes around", got, e, api.Coo{Shape: []int{1}, E: []api.Entry{{C: []int{0}, V: math.MinInt64 + 1}}})
}

func TestJoinByAllOrders(t *testing.T) {
	for _, x := range samples(t) {
		sums := map[[4]int]int64{}
		for _, s := range x.E {
			sums[key(s.C)] += s.V
		}
		for _, order := range orders(len(x.Shape)) {
			y, e := coo.Join(x, order...)
			must(t, y, e)
			if !slices.Equal(x.Shape, y.Shape) || len(y.E) != len(sums) {
				t.Fatalf("Join of %v by %v: got shape %v, %d entries, want %d", x, order, y.Shape, len(y.E), len(sums))
			}
			for n, s := range y.E {
				if want, ok := sums[key(s.C)]; !ok || s.V != want {
					t.Errorf("Join of %v by %v: got %v, want %d", x, order, s, want)
				}
				if n > 0 && !ahead(y.E[n-1].C, s.C, order) {
					t.Errorf("Join of %v by %v: %v stands ahead of %v", x, order, y.E[n-1], s)
				}
			}
		}
	}
}

func TestTrim(t *testing.T) {
	x := list(3, 4, [3]int{2, 1, 1}, [3]int{0, 3, 0}, [3]int{2, 1, -1}, [3]int{1, 0, 0}, [3]int{0, 0, 4}, [3]int{2, 1, 1}, [3]int{0, 3, 0})
	got, e := coo.Trim(x)
	wantList(t, "Trim, as they stand", got, e, list(3, 4, [3]int{2, 1, 1}, [3]int{2, 1, -1}, [3]int{0, 0, 4}, [3]int{2, 1, 1}))
	got, e = coo.Trim(list(1, 1, [3]int{0, 0, 0}))
	wantList(t, "Trim of zeros alone", got, e, list(1, 1))
	got, e = coo.Trim(api.Coo{E: []api.Entry{{V: 0}, {V: math.MinInt64}, {V: 0}}})
	wantList(t, "Trim of no modes", got, e, api.Coo{E: []api.Entry{{V: math.MinInt64}}})
	got, e = coo.Trim(api.Coo{Shape: []int{0, 2}})
	wantList(t, "Trim of no entries", got, e, api.Coo{Shape: []int{0, 2}})
}

func TestPlain(t *testing.T) {
	x := list(3, 4, [3]int{2, 1, 1}, [3]int{0, 3, 2}, [3]int{2, 1, 3}, [3]int{1, 0, 0}, [3]int{2, 0, 4}, [3]int{0, 3, -2})
	got, e := coo.Plain(x)
	wantList(t, "Plain", got, e, list(3, 4, [3]int{2, 0, 4}, [3]int{2, 1, 4}))
	got, e = coo.Plain(api.Coo{E: []api.Entry{{V: 5}, {V: -5}}})
	wantList(t, "Plain of no modes", got, e, api.Coo{})
	around := api.Coo{Shape: []int{1 << 40}, E: []api.Entry{{C: []int{1 << 39}, V: math.MinInt64}, {C: []int{1}, V: 1}, {C: []int{1 << 39}, V: math.MinInt64}}}
	got, e = coo.Plain(around)
	wantList(t, "Plain of a sum that goes around to 0", got, e, api.Coo{Shape: []int{1 << 40}, E: []api.Entry{{C: []int{1}, V: 1}}})
	for _, x := range samples(t) {
		j, e := coo.Join(x)
		trimmed, f := coo.Trim(must(t, j, e))
		got, g := coo.Plain(x)
		wantList(t, "Plain", must(t, got, g), f, trimmed)
	}
}

func TestSortJoinTrimPlainErrors(t *testing.T) {
	for _, b := range badLists() {
		x, e := coo.Trim(b.x)
		wantError(t, "Trim", x, e, b.e)
		x, e = coo.Plain(b.x)
		wantError(t, "Plain", x, e, b.e)
		for _, order := range append(badOrders(len(b.x.Shape)), nil) {
			x, e := coo.Sort(b.x, order...)
			wantError(t, "Sort", x, e, b.e)
			x, e = coo.Join(b.x, order...)
			wantError(t, "Join", x, e, b.e)
		}
	}
	for k, shape := range shapes {
		for _, n := range []int{0, 9} {
			x := mixed(t, k, n, shape...)
			for _, order := range badOrders(len(shape)) {
				y, e := coo.Sort(x, order...)
				wantError(t, "Sort by no order", y, e, api.ErrArg)
				y, e = coo.Join(x, order...)
				wantError(t, "Join by no order", y, e, api.ErrArg)
			}
		}
	}
}

// P2.3

func TestTurn(t *testing.T) {
	x := list(3, 4, [3]int{2, 1, 1}, [3]int{0, 3, 2}, [3]int{2, 1, 3}, [3]int{1, 0, 0})
	got, e := coo.Turn(x, 1, 0)
	wantList(t, "Turn by 1, 0", got, e, list(4, 3, [3]int{1, 2, 1}, [3]int{3, 0, 2}, [3]int{1, 2, 3}, [3]int{0, 1, 0}))
	got, e = coo.Turn(x)
	wantList(t, "Turn, no order named", got, e, x)
	got, e = coo.Turn(x, 0, 1)
	wantList(t, "Turn by 0, 1", got, e, x)
	three := api.Coo{Shape: []int{2, 3, 4}, E: []api.Entry{{C: []int{1, 2, 3}, V: 9}, {C: []int{0, 1, 2}, V: 0}}}
	got, e = coo.Turn(three, 1, 2, 0)
	wantList(t, "Turn by 1, 2, 0", got, e, api.Coo{Shape: []int{3, 4, 2}, E: []api.Entry{{C: []int{2, 3, 1}, V: 9}, {C: []int{1, 2, 0}, V: 0}}})
	got, e = coo.Turn(api.Coo{E: []api.Entry{{V: 2}, {V: 1}}})
	wantList(t, "Turn of no modes", got, e, api.Coo{E: []api.Entry{{V: 2}, {V: 1}}})
	got, e = coo.Turn(api.Coo{Shape: []int{0, math.MaxInt, 7}}, 2, 1, 0)
	wantList(t, "Turn of no entries", got, e, api.Coo{Shape: []int{7, math.MaxInt, 0}})
}

func TestTurnByAllOrders(t *testing.T) {
	for _, x := range samples(t) {
		for _, order := range orders(len(x.Shape)) {
			y, e := coo.Turn(x, order...)
			must(t, y, e)
			if len(y.Shape) != len(order) || len(y.E) != len(x.E) {
				t.Fatalf("Turn of %v by %v: got %v", x, order, y)
			}
			for k, mode := range order {
				if y.Shape[k] != x.Shape[mode] {
					t.Errorf("Turn of %v by %v: got shape %v", x.Shape, order, y.Shape)
				}
				for n, s := range y.E {
					if s.C[k] != x.E[n].C[mode] || s.V != x.E[n].V {
						t.Errorf("Turn of %v by %v: got %v of %v", x.Shape, order, s, x.E[n])
					}
				}
			}
		}
	}
}

func TestTurnErrors(t *testing.T) {
	for _, b := range badLists() {
		for _, order := range append(badOrders(len(b.x.Shape)), nil) {
			x, e := coo.Turn(b.x, order...)
			wantError(t, "Turn", x, e, b.e)
		}
	}
	for k, shape := range shapes {
		x := mixed(t, k, 9, shape...)
		for _, order := range badOrders(len(shape)) {
			y, e := coo.Turn(x, order...)
			wantError(t, "Turn by no order", y, e, api.ErrArg)
		}
	}
}

// P2.4

func TestDense(t *testing.T) {
	x := list(2, 3, [3]int{1, 1, 1}, [3]int{0, 2, 2}, [3]int{1, 1, 3}, [3]int{1, 0, 0}, [3]int{0, 0, 7}, [3]int{0, 0, -7})
	d, e := coo.Dense(x)
	if want := (api.Dense{Shape: []int{2, 3}, V: []int64{0, 0, 2, 0, 4, 0}}); e != api.OK || !box.Same(d, want) {
		t.Errorf("Dense: got %v, error %d; want %v", d, e, want)
	}
	d, e = coo.Dense(api.Coo{E: []api.Entry{{V: math.MaxInt64}, {V: 1}}})
	if want := (api.Dense{V: []int64{math.MinInt64}}); e != api.OK || !box.Same(d, want) {
		t.Errorf("Dense that goes around: got %v, error %d; want %v", d, e, want)
	}
	d, e = coo.Dense(api.Coo{})
	if want := (api.Dense{V: []int64{0}}); e != api.OK || !box.Same(d, want) {
		t.Errorf("Dense of no modes, no entries: got %v, error %d; want %v", d, e, want)
	}
	for _, x := range samples(t) {
		want, _ := box.Zero(x.Shape...)
		for _, s := range x.E {
			n, _ := box.At(x.Shape, s.C)
			want.V[n] += s.V
		}
		if d, e := coo.Dense(x); e != api.OK || !box.Same(d, want) {
			t.Errorf("Dense of %v: got %v, error %d; want %v", x, d, e, want)
		}
	}
	most := api.Coo{Shape: []int{256, 256}, E: []api.Entry{{C: []int{255, 255}, V: 3}}}
	if d, e := coo.Dense(most); e != api.OK || len(d.V) != api.MaxLaid || d.V[api.MaxLaid-1] != 3 {
		t.Errorf("Dense of %v: got %d cells, error %d", most, len(d.V), e)
	}
}

func TestDenseErrors(t *testing.T) {
	check := func(x api.Coo, want api.Errno) {
		t.Helper()
		d, e := coo.Dense(x)
		if e != want || len(d.Shape) != 0 || len(d.V) != 0 {
			t.Errorf("Dense of shape %v, %d entries: got %v, error %d; want %d", x.Shape, len(x.E), d, e, want)
		}
	}
	for _, b := range badLists() {
		check(b.x, b.e)
	}
	check(api.Coo{Shape: []int{65537}}, api.ErrLarge)
	check(api.Coo{Shape: []int{256, 257}, E: []api.Entry{{C: []int{255, 256}, V: 1}}}, api.ErrLarge)
	check(api.Coo{Shape: []int{1<<62 - 1}}, api.ErrLarge)
	check(api.Coo{Shape: []int{65537}, E: []api.Entry{{C: []int{65537}}}}, api.ErrRange)
}

func TestOf(t *testing.T) {
	x, e := coo.Of(api.Dense{Shape: []int{2, 3}, V: []int64{0, -1, 2, 0, math.MinInt64, 0}})
	wantList(t, "Of", x, e, api.Coo{Shape: []int{2, 3}, E: []api.Entry{{C: []int{0, 1}, V: -1}, {C: []int{0, 2}, V: 2}, {C: []int{1, 1}, V: math.MinInt64}}})
	x, e = coo.Of(api.Dense{V: []int64{7}})
	wantList(t, "Of no modes", x, e, api.Coo{E: []api.Entry{{V: 7}}})
	x, e = coo.Of(api.Dense{V: []int64{0}})
	wantList(t, "Of no modes, 0", x, e, api.Coo{})
	x, e = coo.Of(api.Dense{Shape: []int{3, 0}})
	wantList(t, "Of no cells", x, e, api.Coo{Shape: []int{3, 0}})
	most, _ := box.Zero(16, 16, 16, 16)
	for n := range most.V {
		most.V[n] = int64(n) + 1
	}
	x, e = coo.Of(most)
	if must(t, x, e); len(x.E) != api.MaxList {
		t.Errorf("Of most cells: got %d entries", len(x.E))
	}
	for n, s := range x.E {
		if at, e := box.At(x.Shape, s.C); at != n || e != api.OK || s.V != int64(n)+1 {
			t.Fatalf("Of most cells: got %v at %d", s, n)
		}
	}
}

func TestOfErrors(t *testing.T) {
	for _, b := range []struct {
		d api.Dense
		e api.Errno
	}{
		{api.Dense{}, api.ErrArg},
		{api.Dense{Shape: []int{-1}}, api.ErrArg},
		{api.Dense{Shape: []int{1, 1, 1, 1, 1}, V: []int64{1}}, api.ErrArg},
		{api.Dense{Shape: []int{2, 3}, V: make([]int64, 5)}, api.ErrArg},
		{api.Dense{Shape: []int{2, 3}, V: make([]int64, 7)}, api.ErrArg},
		{api.Dense{Shape: []int{65537}, V: make([]int64, 65537)}, api.ErrLarge},
		{api.Dense{Shape: []int{1 << 31, 1 << 31}}, api.ErrLarge},
	} {
		x, e := coo.Of(b.d)
		wantError(t, "Of", x, e, b.e)
	}
}

func TestCount(t *testing.T) {
	x := list(3, 4, [3]int{2, 1, 1}, [3]int{0, 3, 2}, [3]int{2, 1, 3}, [3]int{0, 0, 0}, [3]int{2, 0, 4})
	for mode, want := range [][]int{{2, 0, 3}, {2, 2, 0, 1}} {
		if l, e := coo.Count(x, mode); !slices.Equal(l, want) || e != api.OK {
			t.Errorf("Count of mode %d: got %v, error %d; want %v", mode, l, e, want)
		}
	}
	for _, x := range samples(t) {
		for mode, size := range x.Shape {
			want := make([]int, size)
			for _, s := range x.E {
				want[s.C[mode]]++
			}
			if l, e := coo.Count(x, mode); !slices.Equal(l, want) || e != api.OK {
				t.Errorf("Count of %v, mode %d: got %v, error %d; want %v", x, mode, l, e, want)
			}
		}
	}
	// The other mode has more places than are counted.
	wide := api.Coo{Shape: []int{65536, 1 << 40}, E: []api.Entry{{C: []int{65535, 1 << 39}, V: 1}}}
	if l, e := coo.Count(wide, 0); e != api.OK || len(l) != 65536 || l[65535] != 1 || l[0] != 0 {
		t.Errorf("Count of 65536 places: got %d, error %d", len(l), e)
	}
}

func TestCountErrors(t *testing.T) {
	check := func(x api.Coo, mode int, want api.Errno) {
		t.Helper()
		if l, e := coo.Count(x, mode); e != want || len(l) != 0 {
			t.Errorf("Count of shape %v, %d entries, mode %d: got %d numbers, error %d; want %d", x.Shape, len(x.E), mode, len(l), e, want)
		}
	}
	for _, b := range badLists() {
		for _, mode := range []int{-1, 0, 4} {
			check(b.x, mode, b.e)
		}
	}
	for k, shape := range shapes {
		for _, mode := range []int{-1, len(shape), len(shape) + 1, math.MinInt, math.MaxInt} {
			check(mixed(t, k, 9, shape...), mode, api.ErrRange)
		}
	}
	check(api.Coo{Shape: []int{65537}}, 0, api.ErrLarge)
	check(api.Coo{Shape: []int{65537}}, 1, api.ErrRange)
	check(api.Coo{Shape: []int{2, 1 << 60}, E: []api.Entry{{C: []int{0, 0}}}}, 1, api.ErrLarge)
	check(api.Coo{Shape: []int{0, math.MaxInt}}, 1, api.ErrLarge)
}

// P2.5

func TestItIsTheSameTensor(t *testing.T) {
	for _, x := range samples(t) {
		want, e := coo.Dense(x)
		if e != api.OK {
			t.Fatalf("Dense of %v: error %d", x, e)
		}
		same := func(what string, y api.Coo, e api.Errno) {
			t.Helper()
			if d, f := coo.Dense(must(t, y, e)); f != api.OK || !box.Same(d, want) {
				t.Errorf("%s of %v: got %v, another tensor", what, x, y)
			}
		}
		for _, order := range orders(len(x.Shape)) {
			y, e := coo.Sort(x, order...)
			same("Sort", y, e)
			y, e = coo.Join(x, order...)
			same("Join", y, e)
			y, e = coo.Join(y, order...)
			same("Join of Join", y, e)
		}
		y, e := coo.Trim(x)
		same("Trim", y, e)
		y, e = coo.Plain(x)
		same("Plain", y, e)
		o, e := coo.Of(want)
		if !coo.Same(y, must(t, o, e)) {
			t.Errorf("Plain of %v: got %v, and Of of Dense %v", x, y, o)
		}
	}
}

func TestTurnedThereAndBack(t *testing.T) {
	for _, x := range samples(t) {
		for _, order := range orders(len(x.Shape)) {
			back := make([]int, len(order))
			for k, mode := range order {
				back[mode] = k
			}
			y, e := coo.Turn(x, order...)
			z, f := coo.Turn(must(t, y, e), back...)
			if !coo.Same(x, must(t, z, f)) {
				t.Errorf("turned by %v and back: got %v of %v", order, z, x)
			}
			// Sorted by an order is sorted once it is turned by it.
			s, e := coo.Sort(x, order...)
			s, e = coo.Turn(must(t, s, e), order...)
			y, f = coo.Sort(y)
			if !coo.Same(must(t, s, e), must(t, y, f)) {
				t.Errorf("sorted and turned by %v: got %v and %v", order, s, y)
			}
		}
	}
}

// R2: what is handed in is left as it is, and what is told is new.

// calls are all that tell a list, of x, or of what it is laid out.
func calls(x api.Coo, d api.Dense, order []int) map[string]func() (api.Coo, api.Errno) {
	return map[string]func() (api.Coo, api.Errno){
		"Sort":          func() (api.Coo, api.Errno) { return coo.Sort(x) },
		"Sort by order": func() (api.Coo, api.Errno) { return coo.Sort(x, order...) },
		"Join":          func() (api.Coo, api.Errno) { return coo.Join(x) },
		"Join by order": func() (api.Coo, api.Errno) { return coo.Join(x, order...) },
		"Trim":          func() (api.Coo, api.Errno) { return coo.Trim(x) },
		"Turn":          func() (api.Coo, api.Errno) { return coo.Turn(x) },
		"Turn by order": func() (api.Coo, api.Errno) { return coo.Turn(x, order...) },
		"Plain":         func() (api.Coo, api.Errno) { return coo.Plain(x) },
		"Of":            func() (api.Coo, api.Errno) { return coo.Of(d) },
	}
}

// handed is a list with two entries that share one place, what it is laid out, and an order.
func handed() (api.Coo, api.Dense, []int) {
	one := []int{1, 2, 0}
	x := api.Coo{Shape: []int{2, 3, 2}, E: []api.Entry{{C: one, V: 1}, {C: []int{0, 2, 1}, V: 2}, {C: []int{0, 0, 1}}, {C: one, V: 3}, {C: []int{0, 0, 0}, V: 4}}}
	d := api.Dense{Shape: []int{2, 3, 2}, V: []int64{4, 0, 0, 0, 0, 2, 0, 0, 0, 0, 4, 0}}
	return x, d, []int{2, 0, 1}
}

func TestNothingIsChanged(t *testing.T) {
	x, d, order := handed()
	wantX, wantD, wantOrder := handed()
	unchanged := func(what string) {
		t.Helper()
		if !reflect.DeepEqual(x, wantX) || !reflect.DeepEqual(d, wantD) || !slices.Equal(order, wantOrder) {
			t.Fatalf("%s changed what it was handed", what)
		}
	}
	coo.Check(x)
	coo.Same(x, x)
	unchanged("a call that tells no list")
	l, _ := coo.Count(x, 1)
	l[0] = -9
	unchanged("Count")
	laid, _ := coo.Dense(x)
	laid.Shape[0], laid.V[0] = -9, -9
	unchanged("Dense")
	for what, f := range calls(x, d, order) {
		y, e := f()
		must(t, y, e)
		unchanged(what)
		for k := range y.Shape {
			y.Shape[k] = -9
		}
		for n := range y.E {
			for k := range y.E[n].C {
				y.E[n].C[k] = -9
			}
			y.E[n] = api.Entry{V: -9}
		}
		unchanged(what)
	}
}

func TestNothingIsKept(t *testing.T) {
	for what := range calls(handed()) {
		x, d, order := handed()
		y, e := calls(x, d, order)[what]()
		must(t, y, e)
		want, _ := calls(handed())[what]()
		for n := range x.E {
			for k := range x.E[n].C {
				x.E[n].C[k] = -9
			}
			x.E[n] = api.Entry{V: -9}
		}
		for k := range x.Shape {
			x.Shape[k], d.Shape[k], order[k] = -9, -9, -9
		}
		for n := range d.V {
			d.V[n] = -9
		}
		wantList(t, what+", once what was handed in is written to", y, e, want)
	}
}

func TestNoTwoPlacesAreShared(t *testing.T) {
	for what, f := range calls(handed()) {
		y, e := f()
		must(t, y, e)
		// From behind, as what stands behind a place is its own, too: writing there must not reach one that is written already.
		for n, s := range slices.Backward(y.E) {
			c := s.C[:cap(s.C)]
			for k := range c {
				c[k] = 100 + n
			}
		}
		for n, s := range y.E {
			if want := []int{100 + n, 100 + n, 100 + n}; !slices.Equal(s.C, want) {
				t.Errorf("%s: entry %d's place is written to by another one's: got %v", what, n, s.C)
			}
		}
		if !slices.Equal(slices.Sorted(slices.Values(y.Shape)), []int{2, 2, 3}) {
			t.Errorf("%s: the shape is written to by a place: got %v", what, y.Shape)
		}
	}
}
