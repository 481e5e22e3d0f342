package box_test

import (
	"math"
	"reflect"
	"slices"
	"testing"

	"purfle/api"
	"purfle/box"
)

// shapes are some of each number of modes, with modes of 0 and 1 places, and of as many as may be told apart.
var shapes = [][]int{
	nil,
	{0}, {1}, {5},
	{1, 1}, {2, 3}, {3, 2}, {4, 0}, {0, 4},
	{2, 3, 4}, {4, 1, 3}, {3, 0, 2},
	{1, 1, 1, 1}, {2, 3, 4, 5}, {3, 1, 2, 2}, {2, 2, 0, 2},
}

// wrong are shapes that may not be, and the error that the chapter names first.
var wrong = []struct {
	shape []int
	e     api.Errno
}{
	{[]int{-1}, api.ErrArg},
	{[]int{0, -1}, api.ErrArg},
	{[]int{math.MinInt}, api.ErrArg},
	{[]int{1, 1, 1, 1, 1}, api.ErrArg},
	{[]int{0, 0, 0, 0, 0}, api.ErrArg},
	{[]int{1 << 62, 1 << 62, -1}, api.ErrArg},
	{[]int{1 << 62, 1, 1, 1, 1}, api.ErrArg},
	{[]int{1 << 62}, api.ErrLarge},
	{[]int{math.MaxInt}, api.ErrLarge},
	{[]int{1 << 31, 1 << 31}, api.ErrLarge},
	{[]int{1 << 32, 1 << 32}, api.ErrLarge},
	{[]int{1 << 16, 1 << 16, 1 << 16, 1 << 16}, api.ErrLarge},
	{[]int{3, math.MaxInt, math.MaxInt, 3}, api.ErrLarge},
}

// filled is a tensor of a shape whose cells are all told apart by their numbers.
func filled(t *testing.T, salt int64, shape ...int) api.Dense {
	t.Helper()
	d, e := box.Zero(shape...)
	if e != api.OK {
		t.Fatalf("Zero(%v): error %d", shape, e)
	}
	for n := range d.V {
		d.V[n] = (int64(n) + 1) * (salt*salt + 0x1234567)
	}
	return d
}

func wantDense(t *testing.T, what string, got api.Dense, e api.Errno, shape []int, v []int64) {
	t.Helper()
	if e != api.OK || !slices.Equal(got.Shape, shape) || !slices.Equal(got.V, v) {
		t.Errorf("%s: got %v, error %d; want %v, %v", what, got, e, shape, v)
	}
}

// wantError holds that there is just that error, and nothing beside it.
func wantError(t *testing.T, what string, got any, e, want api.Errno) {
	t.Helper()
	if e != want {
		t.Errorf("%s: got error %d, want %d", what, e, want)
	}
	switch x := got.(type) {
	case int:
		if x != 0 {
			t.Errorf("%s: got %d beside an error", what, x)
		}
	case int64:
		if x != 0 {
			t.Errorf("%s: got %d beside an error", what, x)
		}
	case []int:
		if len(x) != 0 {
			t.Errorf("%s: got %v beside an error", what, x)
		}
	case api.Dense:
		if len(x.Shape) != 0 || len(x.V) != 0 {
			t.Errorf("%s: got %v beside an error", what, x)
		}
	default:
		t.Errorf("%s: a result of another kind", what)
	}
}

// P1.1

func TestCells(t *testing.T) {
	for _, x := range []struct {
		shape []int
		n     int
	}{
		{nil, 1},
		{[]int{}, 1},
		{[]int{0}, 0},
		{[]int{1}, 1},
		{[]int{7}, 7},
		{[]int{2, 3}, 6},
		{[]int{2, 3, 4}, 24},
		{[]int{2, 3, 4, 5}, 120},
		{[]int{1, 1, 1, 1}, 1},
		{[]int{0, 0, 0, 0}, 0},
		{[]int{1<<62 - 1}, 1<<62 - 1},
		{[]int{1 << 61, 1}, 1 << 61},
		{[]int{1 << 31, 1<<31 - 1}, 1<<62 - 1<<31},
		{[]int{3, (1<<62 - 1) / 3}, 1<<62 - 1},
		{[]int{0, math.MaxInt, math.MaxInt}, 0},
		{[]int{math.MaxInt, math.MaxInt, math.MaxInt, 0}, 0},
	} {
		if n, e := box.Cells(x.shape...); n != x.n || e != api.OK {
			t.Errorf("Cells(%v): got %d, error %d; want %d", x.shape, n, e, x.n)
		}
	}
	for _, x := range wrong {
		n, e := box.Cells(x.shape...)
		wantError(t, "Cells", n, e, x.e)
	}
	n, e := box.Cells(make([]int, 1000)...)
	wantError(t, "Cells of 1000 modes", n, e, api.ErrArg)
}

func TestAt(t *testing.T) {
	for _, x := range []struct {
		shape, c []int
		n        int
	}{
		{nil, nil, 0},
		{[]int{}, []int{}, 0},
		{[]int{1}, []int{0}, 0},
		{[]int{5}, []int{4}, 4},
		{[]int{2, 3}, []int{1, 2}, 5},
		{[]int{2, 3}, []int{1, 0}, 3},
		{[]int{3, 2}, []int{1, 0}, 2},
		{[]int{2, 3, 4}, []int{1, 0, 2}, 14},
		{[]int{2, 3, 4, 5}, []int{1, 2, 3, 4}, 119},
		{[]int{2, 3, 4, 5}, []int{1, 1, 0, 2}, 82},
		{[]int{1 << 31, 1<<31 - 1}, []int{1<<31 - 1, 1<<31 - 2}, 1<<62 - 1<<31 - 1},
		{[]int{1<<62 - 1}, []int{1<<62 - 2}, 1<<62 - 2},
	} {
		if n, e := box.At(x.shape, x.c); n != x.n || e != api.OK {
			t.Errorf("At(%v, %v): got %d, error %d; want %d", x.shape, x.c, n, e, x.n)
		}
	}
	for _, x := range []struct{ shape, c []int }{
		{nil, []int{0}},
		{[]int{1}, nil},
		{[]int{0}, []int{0}},
		{[]int{1}, []int{1}},
		{[]int{2}, []int{-1}},
		{[]int{2, 3}, []int{2, 0}},
		{[]int{2, 3}, []int{0, 3}},
		{[]int{2, 3}, []int{1, -1}},
		{[]int{2, 3}, []int{-1, 3}},
		{[]int{2, 3}, []int{1}},
		{[]int{2, 3}, []int{1, 2, 0}},
		{[]int{4, 0}, []int{0, 0}},
		{[]int{0, math.MaxInt, math.MaxInt}, []int{0, 0, 0}},
		{[]int{2}, []int{math.MinInt}},
		{[]int{2}, []int{math.MaxInt}},
	} {
		n, e := box.At(x.shape, x.c)
		wantError(t, "At", n, e, api.ErrRange)
	}
	for _, x := range wrong {
		n, e := box.At(x.shape, make([]int, len(x.shape)))
		wantError(t, "At", n, e, x.e)
		n, e = box.At(x.shape, []int{-1})
		wantError(t, "At: no place in no shape", n, e, x.e)
	}
}

func TestCoord(t *testing.T) {
	for _, x := range []struct {
		shape []int
		n     int
		c     []int
	}{
		{nil, 0, nil},
		{[]int{1}, 0, []int{0}},
		{[]int{5}, 4, []int{4}},
		{[]int{2, 3}, 5, []int{1, 2}},
		{[]int{2, 3}, 0, []int{0, 0}},
		{[]int{3, 2}, 4, []int{2, 0}},
		{[]int{2, 3, 4}, 14, []int{1, 0, 2}},
		{[]int{2, 3, 4, 5}, 82, []int{1, 1, 0, 2}},
		{[]int{1, 1, 1, 1}, 0, []int{0, 0, 0, 0}},
		{[]int{1 << 31, 1<<31 - 1}, 1<<62 - 1<<31 - 1, []int{1<<31 - 1, 1<<31 - 2}},
	} {
		if c, e := box.Coord(x.shape, x.n); !slices.Equal(c, x.c) || e != api.OK {
			t.Errorf("Coord(%v, %d): got %v, error %d; want %v", x.shape, x.n, c, e, x.c)
		}
	}
	for _, x := range []struct {
		shape []int
		n     int
	}{
		{nil, 1},
		{nil, -1},
		{[]int{0}, 0},
		{[]int{0}, -1},
		{[]int{2, 3}, 6},
		{[]int{2, 3}, -1},
		{[]int{4, 0}, 0},
		{[]int{0, math.MaxInt, math.MaxInt}, 0},
		{[]int{2, 3}, math.MaxInt},
		{[]int{2, 3}, math.MinInt},
	} {
		c, e := box.Coord(x.shape, x.n)
		wantError(t, "Coord", c, e, api.ErrRange)
	}
	for _, x := range wrong {
		c, e := box.Coord(x.shape, 0)
		wantError(t, "Coord", c, e, x.e)
		c, e = box.Coord(x.shape, -1)
		wantError(t, "Coord: no number in no shape", c, e, x.e)
	}
}

// P1.2

// badDenses are tensors that may not be, and the error that the chapter names first.
func badDenses() []struct {
	d api.Dense
	e api.Errno
} {
	type bad = struct {
		d api.Dense
		e api.Errno
	}
	l := []bad{
		{api.Dense{}, api.ErrArg},
		{api.Dense{V: []int64{1, 2}}, api.ErrArg},
		{api.Dense{Shape: []int{2}, V: []int64{1}}, api.ErrArg},
		{api.Dense{Shape: []int{2}, V: []int64{1, 2, 3}}, api.ErrArg},
		{api.Dense{Shape: []int{2, 3}, V: make([]int64, 5)}, api.ErrArg},
		{api.Dense{Shape: []int{0}, V: []int64{0}}, api.ErrArg},
		{api.Dense{Shape: []int{65536}, V: make([]int64, 65535)}, api.ErrArg},
		{api.Dense{Shape: []int{65537}, V: make([]int64, 65537)}, api.ErrLarge},
		{api.Dense{Shape: []int{65537}}, api.ErrLarge},
		{api.Dense{Shape: []int{256, 257}, V: make([]int64, 256*257)}, api.ErrLarge},
		{api.Dense{Shape: []int{1 << 31, 1<<31 - 1}}, api.ErrLarge},
	}
	for _, x := range wrong {
		l = append(l, bad{api.Dense{Shape: x.shape}, x.e}, bad{api.Dense{Shape: x.shape, V: make([]int64, 1)}, x.e})
	}
	return l
}

func TestCheck(t *testing.T) {
	for _, d := range []api.Dense{
		{V: []int64{7}},
		{Shape: []int{}, V: []int64{7}},
		{Shape: []int{0}},
		{Shape: []int{0}, V: []int64{}},
		{Shape: []int{1}, V: []int64{-1}},
		{Shape: []int{2, 3}, V: make([]int64, 6)},
		{Shape: []int{math.MaxInt, math.MaxInt, 0}},
		{Shape: []int{65536}, V: make([]int64, 65536)},
		{Shape: []int{16, 16, 16, 16}, V: make([]int64, 65536)},
	} {
		if e := box.Check(d); e != api.OK {
			t.Errorf("Check of shape %v, %d numbers: got error %d", d.Shape, len(d.V), e)
		}
	}
	for _, x := range badDenses() {
		if e := box.Check(x.d); e != x.e {
			t.Errorf("Check of shape %v, %d numbers: got error %d, want %d", x.d.Shape, len(x.d.V), e, x.e)
		}
	}
}

func TestZero(t *testing.T) {
	for _, shape := range append(slices.Clone(shapes), []int{65536}, []int{256, 256}, []int{0, math.MaxInt, math.MaxInt}) {
		n, _ := box.Cells(shape...)
		d, e := box.Zero(shape...)
		wantDense(t, "Zero", d, e, shape, make([]int64, n))
		if e := box.Check(d); e != api.OK {
			t.Errorf("Zero(%v) may not be: error %d", shape, e)
		}
	}
	for _, shape := range [][]int{{65537}, {256, 257}, {1, 65537, 1, 1}, {1<<62 - 1}} {
		d, e := box.Zero(shape...)
		wantError(t, "Zero", d, e, api.ErrLarge)
	}
	for _, x := range wrong {
		d, e := box.Zero(x.shape...)
		wantError(t, "Zero", d, e, x.e)
	}
}

func TestGet(t *testing.T) {
	for _, shape := range shapes {
		d := filled(t, 1, shape...)
		for n, want := range d.V {
			c, _ := box.Coord(shape, n)
			if v, e := box.Get(d, c...); v != want || e != api.OK {
				t.Errorf("Get of %v at %v: got %d, error %d; want %d", shape, c, v, e, want)
			}
		}
	}
	d := filled(t, 1, 2, 3)
	for _, c := range [][]int{nil, {1}, {1, 2, 0}, {2, 0}, {0, 3}, {-1, 0}, {0, -1}, {math.MinInt, math.MaxInt}} {
		v, e := box.Get(d, c...)
		wantError(t, "Get", v, e, api.ErrRange)
	}
	v, e := box.Get(api.Dense{Shape: []int{3, 0}}, 0, 0)
	wantError(t, "Get of no cells", v, e, api.ErrRange)
	for _, x := range badDenses() {
		v, e := box.Get(x.d, -1)
		wantError(t, "Get", v, e, x.e)
	}
}

func TestSame(t *testing.T) {
	for i, x := range shapes {
		for k, y := range shapes {
			a, b := filled(t, 1, x...), filled(t, 1, y...)
			if got := box.Same(a, b); got != (i == k) {
				t.Errorf("Same of %v and %v: got %v", x, y, got)
			}
		}
	}
	for _, shape := range shapes {
		a := filled(t, 1, shape...)
		for n := range a.V {
			b := filled(t, 1, shape...)
			b.V[n]++
			if box.Same(a, b) || box.Same(b, a) {
				t.Errorf("Same of two that differ at cell %d of %v", n, shape)
			}
		}
	}
	if !box.Same(api.Dense{Shape: []int{}, V: []int64{3}}, api.Dense{V: []int64{3}}) {
		t.Error("Same: a shape of no modes is nil or empty")
	}
	if !box.Same(api.Dense{Shape: []int{0}, V: []int64{}}, api.Dense{Shape: []int{0}}) {
		t.Error("Same: no numbers are nil or empty")
	}
	good := filled(t, 1, 2, 3)
	for _, x := range badDenses() {
		if box.Same(x.d, x.d) || box.Same(x.d, good) || box.Same(good, x.d) {
			t.Errorf("Same of shape %v, %d numbers, that may not be", x.d.Shape, len(x.d.V))
		}
	}
}

// P1.3

func TestAddMulScale(t *testing.T) {
	a := api.Dense{Shape: []int{2, 3}, V: []int64{1, -2, 3, math.MaxInt64, math.MinInt64, 1 << 32}}
	b := api.Dense{Shape: []int{2, 3}, V: []int64{10, 20, 0, 1, -1, 1 << 32}}
	d, e := box.Add(a, b)
	wantDense(t, "Add", d, e, []int{2, 3}, []int64{11, 18, 3, math.MinInt64, math.MaxInt64, 1 << 33})
	d, e = box.Mul(a, b)
	wantDense(t, "Mul", d, e, []int{2, 3}, []int64{10, -40, 0, math.MaxInt64, math.MinInt64, 0})
	d, e = box.Scale(a, 2)
	wantDense(t, "Scale", d, e, []int{2, 3}, []int64{2, -4, 6, -2, 0, 1 << 33})
	d, e = box.Scale(a, 0)
	wantDense(t, "Scale by 0", d, e, []int{2, 3}, make([]int64, 6))
	d, e = box.Scale(a, -1)
	wantDense(t, "Scale by -1", d, e, []int{2, 3}, []int64{-1, 2, -3, -math.MaxInt64, math.MinInt64, -1 << 32})

	one := api.Dense{V: []int64{7}}
	d, e = box.Add(one, one)
	wantDense(t, "Add of no modes", d, e, nil, []int64{14})
	d, e = box.Mul(one, one)
	wantDense(t, "Mul of no modes", d, e, nil, []int64{49})
	d, e = box.Scale(one, 3)
	wantDense(t, "Scale of no modes", d, e, nil, []int64{21})

	none := api.Dense{Shape: []int{3, 0}}
	d, e = box.Add(none, none)
	wantDense(t, "Add of no cells", d, e, []int{3, 0}, nil)
	d, e = box.Mul(none, none)
	wantDense(t, "Mul of no cells", d, e, []int{3, 0}, nil)
	d, e = box.Scale(none, 3)
	wantDense(t, "Scale of no cells", d, e, []int{3, 0}, nil)

	most := filled(t, 3, 65536)
	d, e = box.Add(most, most)
	two, f := box.Scale(most, 2)
	if e != api.OK || f != api.OK || !box.Same(d, two) {
		t.Error("Add of two of 65536 cells is not Scale by 2")
	}
}

func TestAddMulScaleErrors(t *testing.T) {
	both := func(what string, a, b api.Dense, want api.Errno) {
		d, e := box.Add(a, b)
		wantError(t, "Add: "+what, d, e, want)
		d, e = box.Mul(a, b)
		wantError(t, "Mul: "+what, d, e, want)
	}
	for i, x := range shapes {
		for k, y := range shapes {
			if i != k {
				both("other shapes", filled(t, 1, x...), filled(t, 1, y...), api.ErrShape)
			}
		}
	}
	good := filled(t, 1, 2, 3)
	for _, x := range badDenses() {
		both("the first may not be", x.d, good, x.e)
		both("the second may not be", good, x.d, x.e)
		for _, y := range badDenses() {
			both("neither may be", x.d, y.d, x.e)
		}
		d, e := box.Scale(x.d, 0)
		wantError(t, "Scale", d, e, x.e)
	}
}

func TestSum(t *testing.T) {
	a := api.Dense{Shape: []int{2, 3, 2}, V: []int64{1, 2, 3, 4, 5, 6, 7, 8, 9, 10, 11, 12}}
	for mode, want := range []api.Dense{
		{Shape: []int{3, 2}, V: []int64{8, 10, 12, 14, 16, 18}},
		{Shape: []int{2, 2}, V: []int64{9, 12, 27, 30}},
		{Shape: []int{2, 3}, V: []int64{3, 7, 11, 15, 19, 23}},
	} {
		d, e := box.Sum(a, mode)
		wantDense(t, "Sum", d, e, want.Shape, want.V)
	}
	d, e := box.Sum(api.Dense{Shape: []int{3}, V: []int64{1, 2, 4}}, 0)
	wantDense(t, "Sum of one mode", d, e, nil, []int64{7})
	d, e = box.Sum(api.Dense{Shape: []int{2}, V: []int64{math.MaxInt64, 1}}, 0)
	wantDense(t, "Sum that goes around", d, e, nil, []int64{math.MinInt64})
	d, e = box.Sum(api.Dense{Shape: []int{1, 3, 1}, V: []int64{1, 2, 4}}, 2)
	wantDense(t, "Sum of a mode of 1", d, e, []int{1, 3}, []int64{1, 2, 4})
	d, e = box.Sum(api.Dense{Shape: []int{0}}, 0)
	wantDense(t, "Sum of no places", d, e, nil, []int64{0})
	d, e = box.Sum(api.Dense{Shape: []int{2, 0, 2}}, 1)
	wantDense(t, "Sum of no places between", d, e, []int{2, 2}, []int64{0, 0, 0, 0})
	d, e = box.Sum(api.Dense{Shape: []int{2, 0, 2}}, 0)
	wantDense(t, "Sum beside no places", d, e, []int{0, 2}, nil)
	d, e = box.Sum(api.Dense{Shape: []int{0, 0}}, 1)
	wantDense(t, "Sum of no places beside none", d, e, []int{0}, nil)
	d, e = box.Sum(api.Dense{Shape: []int{0, math.MaxInt, math.MaxInt, math.MaxInt}}, 2)
	wantDense(t, "Sum beside no places, of many", d, e, []int{0, math.MaxInt, math.MaxInt}, nil)
	d, e = box.Sum(api.Dense{Shape: []int{65536, 0}}, 1)
	wantDense(t, "Sum of no places, as many as may be left", d, e, []int{65536}, make([]int64, 65536))
}

func TestSumErrors(t *testing.T) {
	for _, shape := range shapes {
		for _, mode := range []int{-1, len(shape), len(shape) + 1, math.MinInt, math.MaxInt} {
			d, e := box.Sum(filled(t, 1, shape...), mode)
			wantError(t, "Sum: no mode", d, e, api.ErrRange)
		}
	}
	for _, x := range []struct {
		shape []int
		mode  int
	}{
		{[]int{65537, 0}, 1},
		{[]int{0, 65537}, 0},
		{[]int{256, 0, 257}, 1},
		{[]int{1 << 31, 1 << 31, 0}, 2},
		{[]int{0, math.MaxInt, math.MaxInt, math.MaxInt}, 0},
	} {
		d, e := box.Sum(api.Dense{Shape: x.shape}, x.mode)
		wantError(t, "Sum: too large", d, e, api.ErrLarge)
		d, e = box.Sum(api.Dense{Shape: x.shape}, len(x.shape))
		wantError(t, "Sum: no mode, of one that would be too large", d, e, api.ErrRange)
	}
	for _, x := range badDenses() {
		for _, mode := range []int{-1, 0, 4} {
			d, e := box.Sum(x.d, mode)
			wantError(t, "Sum", d, e, x.e)
		}
	}
}

// P1.4

func TestPlacesAndNumbersAreOneToOne(t *testing.T) {
	for _, shape := range shapes {
		cells, _ := box.Cells(shape...)
		var last []int
		for n := range cells {
			c, e := box.Coord(shape, n)
			if e != api.OK || len(c) != len(shape) {
				t.Fatalf("Coord(%v, %d): got %v, error %d", shape, n, c, e)
			}
			if m, e := box.At(shape, c); m != n || e != api.OK {
				t.Errorf("At(%v, %v): got %d, error %d; want %d", shape, c, m, e, n)
			}
			if n > 0 && slices.Compare(last, c) >= 0 {
				t.Errorf("Coord(%v, %d): %v is not behind %v", shape, n, c, last)
			}
			last = c
		}
	}
}

func TestSumsOverTwoModes(t *testing.T) {
	sum := func(d api.Dense, mode int) api.Dense {
		s, e := box.Sum(d, mode)
		if e != api.OK {
			t.Fatalf("Sum of %v over %d: error %d", d.Shape, mode, e)
		}
		return s
	}
	for _, shape := range shapes {
		d := filled(t, 5, shape...)
		for k := range shape {
			for i := range k {
				// Without mode i, mode k is the one ahead of where it was.
				if !box.Same(sum(sum(d, k), i), sum(sum(d, i), k-1)) {
					t.Errorf("sums of %v over %d and %d differ", shape, i, k)
				}
			}
		}
	}
}

func TestSumIsLinear(t *testing.T) {
	must := func(d api.Dense, e api.Errno) api.Dense {
		if e != api.OK {
			t.Fatalf("error %d", e)
		}
		return d
	}
	for _, shape := range shapes {
		a, b := filled(t, 1<<20, shape...), filled(t, 3, shape...)
		for mode := range shape {
			whole := must(box.Sum(must(box.Add(must(box.Scale(a, -1<<40+1)), b)), mode))
			parts := must(box.Add(must(box.Scale(must(box.Sum(a, mode)), -1<<40+1)), must(box.Sum(b, mode))))
			if !box.Same(whole, parts) {
				t.Errorf("Sum of %v over %d is not linear", shape, mode)
			}
		}
	}
}

// R2: what is handed in is left as it is, and what is told is new.

func TestNothingIsSharedOrChanged(t *testing.T) {
	shape, c := []int{2, 3}, []int{1, 2}
	a := filled(t, 1, shape...)
	b := filled(t, 2, shape...)
	wantA, wantB := filled(t, 1, 2, 3), filled(t, 2, 2, 3)
	unchanged := func(what string) {
		t.Helper()
		if !slices.Equal(shape, []int{2, 3}) || !slices.Equal(c, []int{1, 2}) || !reflect.DeepEqual(a, wantA) || !reflect.DeepEqual(b, wantB) {
			t.Fatalf("%s changed what it was handed", what)
		}
	}
	box.Cells(shape...)
	box.At(shape, c)
	box.Get(a, c...)
	box.Check(a)
	box.Same(a, b)
	unchanged("a call that tells no list")
	place, _ := box.Coord(shape, 5)
	place[0] = 9
	unchanged("Coord")
	for what, f := range map[string]func() (api.Dense, api.Errno){
		"Zero":  func() (api.Dense, api.Errno) { return box.Zero(shape...) },
		"Add":   func() (api.Dense, api.Errno) { return box.Add(a, b) },
		"Mul":   func() (api.Dense, api.Errno) { return box.Mul(a, b) },
		"Scale": func() (api.Dense, api.Errno) { return box.Scale(a, 1) },
		"Sum 0": func() (api.Dense, api.Errno) { return box.Sum(a, 0) },
		"Sum 1": func() (api.Dense, api.Errno) { return box.Sum(a, 1) },
	} {
		d, e := f()
		if e != api.OK {
			t.Fatalf("%s: error %d", what, e)
		}
		for k := range d.Shape {
			d.Shape[k] = -9
		}
		for n := range d.V {
			d.V[n] = -9
		}
		unchanged(what)
	}
}
