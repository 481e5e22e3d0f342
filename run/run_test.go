package run_test

import (
	"math"
	"slices"
	"strconv"
	"strings"
	"testing"

	"purfle/api"
	"purfle/code"
	"purfle/run"
)

// read is the code of a text; lines stand one behind the other, with ; between them.
func read(t *testing.T, s string) api.Code {
	t.Helper()
	c, _, e := code.Parse(strings.ReplaceAll(s, ";", "\n"))
	if e != api.OK {
		t.Fatalf("%s: error %d", s, e)
	}
	return c
}

// few are a list's first ones, to be told.
func few[T any](l []T) []T { return l[:min(len(l), 20)] }

// start is code without what is behind its first instructions, to be told.
func start(c api.Code) api.Code {
	c.L = few(c.L)
	return c
}

// sameResult tells whether two results are the same, without asking Same.
func sameResult(a, b api.Result) bool {
	return a.Steps == b.Steps && a.Cells == b.Cells && slices.EqualFunc(a.Out, b.Out, slices.Equal[[]int64])
}

// none tells whether a result is zero.
func none(r api.Result) bool { return r.Steps == 0 && r.Cells == 0 && len(r.Out) == 0 }

// want wants that code comes to a result, by a path, with steps and room to spare or not; and so of all calls.
func want(t *testing.T, c api.Code, fuel, cells int, in [][]int64, x api.Result, path []int) {
	t.Helper()
	if r, e := run.Run(c, fuel, cells, in...); !sameResult(r, x) || e != api.OK {
		t.Errorf("Run of %v, %d, %d, %v: got %v, error %d; want %v", start(c), fuel, cells, few(in), r, e, x)
	}
	if n, m, e := run.Need(c, fuel, cells, in...); n != x.Steps || m != x.Cells || e != api.OK {
		t.Errorf("Need of %v, %d, %d, %v: got %d, %d, error %d; want %d, %d", start(c), fuel, cells, few(in), n, m, e, x.Steps, x.Cells)
	}
	if l, e := run.Path(c, fuel, cells, in...); !slices.Equal(l, path) || e != api.OK {
		t.Errorf("Path of %v, %d, %d, %v: got %v, error %d; want %v", start(c), fuel, cells, few(in), few(l), e, few(path))
	}
}

// wantNone wants that nothing is told but an error.
func wantNone(t *testing.T, c api.Code, fuel, cells int, in [][]int64, want api.Errno) {
	t.Helper()
	if r, e := run.Run(c, fuel, cells, in...); !none(r) || e != want {
		t.Errorf("Run of %v, %d, %d, %v: got %v, error %d; want error %d", start(c), fuel, cells, few(in), r, e, want)
	}
	if n, m, e := run.Need(c, fuel, cells, in...); n != 0 || m != 0 || e != want {
		t.Errorf("Need of %v, %d, %d, %v: got %d, %d, error %d; want error %d", start(c), fuel, cells, few(in), n, m, e, want)
	}
	if l, e := run.Path(c, fuel, cells, in...); len(l) > 0 || e != want {
		t.Errorf("Path of %v, %d, %d, %v: got %v, error %d; want error %d", start(c), fuel, cells, few(in), few(l), e, want)
	}
}

// wantWords wants what the chapter's words say.
func wantWords(t *testing.T, c api.Code, fuel, cells int, in [][]int64) api.Errno {
	t.Helper()
	r, path, e := runOf(c, fuel, cells, in...)
	if e != api.OK {
		wantNone(t, c, fuel, cells, in, e)
	} else {
		want(t, c, fuel, cells, in, r, path)
	}
	return e
}

// lists are several.
func lists(l ...[]int64) [][]int64 { return l }

// P16.1

func TestExample(t *testing.T) {
	c := read(t, "code 1 1 0;set r0 7;push a0 r0;halt")
	want(t, c, 3, 1, nil, api.Result{Out: lists([]int64{7}), Steps: 3, Cells: 1}, []int{0, 1, 2})
	want(t, c, math.MaxInt, math.MaxInt, nil, api.Result{Out: lists([]int64{7}), Steps: 3, Cells: 1}, []int{0, 1, 2})
	wantNone(t, c, 2, 1, nil, api.ErrFuel)
	wantNone(t, c, 3, 0, nil, api.ErrCells)
}

// outs are what code of these lines pushes on the array behind those that are handed in.
func outs(t *testing.T, s string, in ...[]int64) []int64 {
	t.Helper()
	many := strconv.Itoa(len(in))
	c := read(t, "code 4 "+strconv.Itoa(len(in)+1)+" "+many+";"+strings.ReplaceAll(s, "out", "a"+many))
	r, e := run.Run(c, 1000, 1000, in...)
	if e != api.OK || len(r.Out) != 1 {
		t.Errorf("%s: got %v, error %d", s, r, e)
		return nil
	}
	wantWords(t, c, 1000, 1000, in)
	return r.Out[0]
}

func wantOuts(t *testing.T, s string, want []int64, in ...[]int64) {
	t.Helper()
	if l := outs(t, s, in...); !slices.Equal(l, want) {
		t.Errorf("%s: got %v; want %v", s, l, want)
	}
}

func TestRegisters(t *testing.T) {
	wantOuts(t, "halt", nil)
	wantOuts(t, "set r0 0;push out r0;halt", []int64{0})
	wantOuts(t, "set r0 999999999999999999;push out r0;set r0 - 999999999999999999;push out r0;halt", []int64{999999999999999999, -999999999999999999})
	wantOuts(t, "set r0 1;set r1 2;set r0 3;push out r0;push out r1;halt", []int64{3, 2})
	// Moved, the other one stays, and neither hangs on the other later.
	wantOuts(t, "set r0 1;set r1 2;move r0 r1;set r1 3;push out r0;push out r1;halt", []int64{2, 3})
	wantOuts(t, "set r0 5;move r0 r0;push out r0;halt", []int64{5})
	// The second one and the third one, in that order, be they the first one or not.
	for s, want := range map[string]int64{
		"add r2 r0 r1": 17, "sub r2 r0 r1": 3, "sub r2 r1 r0": -3, "mul r2 r0 r1": 70,
		"add r2 r0 r0": 20, "sub r2 r0 r0": 0, "mul r2 r1 r1": 49,
	} {
		wantOuts(t, "set r0 10;set r1 7;"+s+";push out r2;push out r0;push out r1;halt", []int64{want, 10, 7})
	}
	wantOuts(t, "set r0 10;set r1 7;sub r0 r1 r0;push out r0;sub r1 r1 r0;push out r1;mul r1 r1 r1;push out r1;halt", []int64{-3, 10, 100})
}

func TestNumbersGoAround(t *testing.T) {
	const least, most = math.MinInt64, math.MaxInt64
	for _, x := range []struct{ a, b, add, sub, mul int64 }{
		{most, 1, least, most - 1, most},
		{least, 1, least + 1, most, least},
		{least, -1, most, least + 1, least},
		{least, least, 0, 0, 0},
		{most, most, -2, 0, 1},
		{most, least, -1, -1, least},
		{0, least, least, least, 0},
		{1 << 32, 1 << 32, 1 << 33, 0, 0},
		{1<<32 + 1, 1<<32 + 1, 1<<33 + 2, 0, 1<<33 + 1},
		{3037000500, 3037000500, 6074001000, 0, -9223372036709301616},
		{1 << 62, 2, 1<<62 + 2, 1<<62 - 2, least},
		{1 << 62, -3, 1<<62 - 3, 1<<62 + 3, 1 << 62},
	} {
		wantOuts(t, "set r3 0;load r0 a0 r3;load r1 a1 r3;add r2 r0 r1;push out r2;sub r2 r0 r1;push out r2;mul r2 r0 r1;push out r2;halt", []int64{x.add, x.sub, x.mul}, []int64{x.a}, []int64{x.b})
	}
	// Beyond what an instruction may name, and the numbers stay whole in arrays.
	wantOuts(t, "set r0 999999999999999999;mul r1 r0 r0;push out r1;set r2 0;store out r2 r0;load r3 out r2;push out r3;halt", []int64{999999999999999999, 999999999999999999})
	wantOuts(t, "set r0 999999999999999999;mul r1 r0 r0;push out r1;halt", []int64{-7527149226598858751})
}

func TestWhereItGoesOn(t *testing.T) {
	say := ";set r3 1;push out r3;halt;set r3 2;push out r3;halt"
	for _, x := range []struct {
		a, b       int64
		less, same bool
	}{
		{1, 2, true, false}, {2, 1, false, false}, {2, 2, false, true}, {-1, 0, true, false}, {0, -1, false, false}, {0, 0, false, true},
		{math.MinInt64, math.MaxInt64, true, false}, {math.MaxInt64, math.MinInt64, false, false}, {math.MinInt64, math.MinInt64, false, true},
		{math.MinInt64, 0, true, false}, {0, math.MinInt64, false, false}, {1, 1<<32 + 1, true, false}, {-1, math.MaxInt64, true, false}, {1 << 53, 1<<53 + 1, true, false},
	} {
		side := func(is bool) []int64 {
			if is {
				return []int64{2}
			}
			return []int64{1}
		}
		ahead := "set r2 0;load r0 a0 r2;load r1 a1 r2;"
		wantOuts(t, ahead+"less r0 r1 7"+say, side(x.less), []int64{x.a}, []int64{x.b})
		wantOuts(t, ahead+"same r0 r1 7"+say, side(x.same), []int64{x.a}, []int64{x.b})
	}
	wantOuts(t, "set r0 1;less r0 r0 5"+say, []int64{1})
	wantOuts(t, "set r0 1;same r0 r0 5"+say, []int64{2})
	wantOuts(t, "jump 4"+say, []int64{2})
	// Back, on to the next one, and to one's own place: once r0 is less it is so for ever.
	wantOuts(t, "jump 3;push out r0;halt;set r0 9;jump 1", []int64{9})
	wantOuts(t, "set r0 3;jump 2;same r0 r0 3;less r0 r0 4;push out r0;halt", []int64{3})
	wantNone(t, read(t, "code 2 0 0;set r0 1;set r1 2;less r0 r1 2;halt"), 1000, 0, nil, api.ErrFuel)
	wantNone(t, read(t, "code 0 0 0;jump 0"), 1000, 0, nil, api.ErrFuel)
	wantNone(t, read(t, "code 0 0 0;jump 0;halt"), 1000, 0, nil, api.ErrFuel)
	want(t, read(t, "code 2 0 0;set r0 1;set r1 1;less r0 r1 2;halt"), 4, 0, nil, api.Result{Steps: 4}, []int{0, 1, 2, 3})
	want(t, read(t, "code 0 0 0;jump 2;halt;jump 1"), 3, 0, nil, api.Result{Steps: 3}, []int{0, 2, 1})
}

func TestArrays(t *testing.T) {
	in := lists([]int64{10, 20, 30}, nil, []int64{-5})
	// What is handed in is loaded, and told how long it is.
	wantOuts(t, "len r0 a0;push out r0;len r0 a1;push out r0;len r0 a2;push out r0;len r0 out;push out r0;halt", []int64{3, 0, 1, 3}, in...)
	wantOuts(t, "set r0 0;load r1 a0 r0;push out r1;set r0 2;load r1 a0 r0;push out r1;set r0 0;load r0 a2 r0;push out r0;halt", []int64{10, 30, -5}, in...)
	// What was pushed is loaded, stored over, and longer.
	wantOuts(t, "set r0 0;set r1 7;push out r1;load r2 out r0;push out r2;set r3 1;store out r3 r0;len r3 out;push out r3;halt", []int64{7, 0, 2})
	wantOuts(t, "set r0 0;push out r0;store out r0 r0;set r1 8;store out r0 r1;load r0 out r0;push out r0;halt", []int64{8, 8})
}

func TestSeveralArrays(t *testing.T) {
	c := read(t, "code 3 6 2;set r0 1;set r1 2;push a3 r0;push a5 r1;push a3 r1;push a2 r0;set r2 0;store a3 r2 r1;halt")
	want(t, c, 9, 4, lists([]int64{7}, []int64{8}), api.Result{Out: lists([]int64{1}, []int64{2, 2}, nil, []int64{2}), Steps: 9, Cells: 4}, []int{0, 1, 2, 3, 4, 5, 6, 7, 8})
	// All of them handed in, and none.
	want(t, read(t, "code 1 2 2;len r0 a1;halt"), 2, 0, lists([]int64{7}, nil), api.Result{Steps: 2}, []int{0, 1})
	want(t, read(t, "code 0 0 0;halt"), 1, 0, nil, api.Result{Steps: 1}, []int{0})
	want(t, read(t, "code 0 3 0;halt"), 1, 0, nil, api.Result{Out: lists(nil, nil, nil), Steps: 1}, []int{0})
	// The same list, handed in twice.
	l := []int64{3, 4}
	want(t, read(t, "code 3 3 2;set r0 1;load r1 a0 r0;load r2 a1 r0;add r1 r1 r2;push a2 r1;halt"), 6, 1, lists(l, l), api.Result{Out: lists([]int64{8}), Steps: 6, Cells: 1}, []int{0, 1, 2, 3, 4, 5})
}

func TestArraysThatGrowStayApart(t *testing.T) {
	// Numbers are pushed in turn on two arrays that grow: neither runs into the other.
	c := read(t, "code 4 3 1;set r0 0;len r1 a0;set r3 1;less r0 r1 5;halt;load r2 a0 r0;push a1 r2;push a2 r0;add r0 r0 r3;jump 3")
	var a, b []int64
	for k := range int64(1000) {
		a, b = append(a, 3*k-100), append(b, k)
	}
	r, e := run.Run(c, 1<<20, 1<<20, a)
	if e != api.OK || !sameResult(r, api.Result{Out: lists(a, b), Steps: 3 + 6*1000 + 2, Cells: 2000}) {
		t.Errorf("got %d steps, %d pushes, error %d, %v", r.Steps, r.Cells, e, few(r.Out))
	}
}

func TestPlacesThatAreNone(t *testing.T) {
	const least, most = math.MinInt64, math.MaxInt64
	for _, n := range []int64{-1, 3, 4, least, most, 1 << 32, 1<<32 + 1, 1 << 33, 1 << 61, -1 << 32, 1 - 1<<32, 1<<62 + 1} {
		in := lists([]int64{n}, []int64{5, 6, 7})
		wantNone(t, read(t, "code 2 2 2;set r0 0;load r0 a0 r0;load r1 a1 r0;halt"), 99, 99, in, api.ErrRange)
		wantNone(t, read(t, "code 2 3 2;set r0 0;push a2 r0;push a2 r0;push a2 r0;load r0 a0 r0;load r1 a2 r0;halt"), 99, 99, in, api.ErrRange)
		wantNone(t, read(t, "code 2 3 2;set r0 0;push a2 r0;push a2 r0;push a2 r0;load r0 a0 r0;store a2 r0 r0;halt"), 99, 99, in, api.ErrRange)
	}
	for n := range int64(3) {
		in := lists([]int64{n}, []int64{5, 6, 7})
		ahead := "code 2 3 2;set r0 0;push a2 r0;push a2 r0;push a2 r0;load r0 a0 r0;"
		want(t, read(t, ahead+"load r1 a1 r0;store a2 r0 r1;halt"), 8, 3, in, api.Result{Out: lists([][]int64{{5, 0, 0}, {0, 6, 0}, {0, 0, 7}}[n]), Steps: 8, Cells: 3}, []int{0, 1, 2, 3, 4, 5, 6, 7})
	}
	// None at all.
	wantNone(t, read(t, "code 1 1 1;set r0 0;load r0 a0 r0;halt"), 99, 99, lists(nil), api.ErrRange)
	wantNone(t, read(t, "code 1 1 0;set r0 0;load r0 a0 r0;halt"), 99, 99, nil, api.ErrRange)
	wantNone(t, read(t, "code 1 1 0;set r0 0;store a0 r0 r0;halt"), 99, 99, nil, api.ErrRange)
	// A place that another array has.
	wantNone(t, read(t, "code 1 2 1;set r0 0;store a1 r0 r0;halt"), 99, 99, lists([]int64{5}), api.ErrRange)
	wantNone(t, read(t, "code 1 2 0;set r0 0;push a0 r0;load r0 a1 r0;halt"), 99, 99, nil, api.ErrRange)
	// Where it is not gone to nothing is wrong.
	want(t, read(t, "code 1 1 0;set r0 0;same r0 r0 3;load r0 a0 r0;halt"), 3, 0, nil, api.Result{Out: lists(nil), Steps: 3}, []int{0, 1, 3})
}

func TestNoPlaceBehindTheEndOfAList(t *testing.T) {
	room := []int64{1, 2, 3, 4}
	c := read(t, "code 1 1 1;set r0 2;load r0 a0 r0;halt")
	wantNone(t, c, 99, 99, lists(room[:2]), api.ErrRange)
	want(t, c, 99, 99, lists(room[:3]), api.Result{Steps: 3}, []int{0, 1, 2})
}

func TestWhatIsWrongWithCodeComesFirst(t *testing.T) {
	for s, e := range map[string]api.Errno{
		"code 1 1 1;move r0 r0;halt":                 api.ErrName,
		"code 1 1 1;set r0 0;push a0 r0;halt":        api.ErrRange,
		"code 1 1 1;set r0 0;store a0 r0 r0;halt":    api.ErrRange,
		"code 1 2 1;halt;push a0 r0;halt":            api.ErrRange,
		"code 2 2 1;push a1 r1;halt;push a0 r0;halt": api.ErrName,
		// What is never gone to, but reached by the words, counts too.
		"code 2 1 1;set r0 0;same r0 r0 3;move r0 r1;halt": api.ErrName,
	} {
		c := read(t, s)
		for _, fuel := range []int{-1, 0, 99} {
			for _, cells := range []int{-1, 0, 99} {
				for many := range 4 {
					wantNone(t, c, fuel, cells, make([][]int64, many), e)
				}
			}
		}
	}
	good := read(t, "code 2 2 1;set r0 0;set r1 1;halt")
	for k, spoil := range []func(c *api.Code){
		func(c *api.Code) { c.L = nil },
		func(c *api.Code) { c.L = c.L[:2] },
		func(c *api.Code) { c.Regs = -1 },
		func(c *api.Code) { c.Regs = 129 },
		func(c *api.Code) { c.Regs = 1 },
		func(c *api.Code) { c.Arrays = 129 },
		func(c *api.Code) { c.In = 3 },
		func(c *api.Code) { c.In = -1 },
		func(c *api.Code) { c.L[0].Op = 13 },
		func(c *api.Code) { c.L[0].Op = -1 },
		func(c *api.Code) { c.L[0].B = 1 },
		func(c *api.Code) { c.L[0].N = api.MaxN },
		func(c *api.Code) { c.L[2] = api.Ins{Op: api.JumpI, A: 3} },
		func(c *api.Code) { c.L = append(make([]api.Ins, api.MaxIns), c.L...) },
	} {
		c := good
		c.L = slices.Clone(good.L)
		spoil(&c)
		for _, fuel := range []int{-1, 0, 99} {
			t.Run(strconv.Itoa(k), func(t *testing.T) { wantNone(t, c, fuel, fuel, lists(nil), api.ErrArg) })
		}
	}
	wantNone(t, api.Code{}, 99, 99, nil, api.ErrArg)
}

func TestWrongArguments(t *testing.T) {
	for in := range 4 {
		c := read(t, "code 1 4 "+strconv.Itoa(in)+";halt")
		for many := range 6 {
			l := make([][]int64, many)
			for _, n := range []int{-1, math.MinInt, math.MinInt32} {
				wantNone(t, c, n, 99, l, api.ErrArg)
				wantNone(t, c, 99, n, l, api.ErrArg)
				wantNone(t, c, n, n, l, api.ErrArg)
			}
			if many == in {
				want(t, c, 1, 0, l, api.Result{Out: make([][]int64, 4-in), Steps: 1}, []int{0})
				wantNone(t, c, 0, 0, l, api.ErrFuel)
			} else {
				wantNone(t, c, 1, 0, l, api.ErrArg)
				wantNone(t, c, 0, 0, l, api.ErrArg)
			}
		}
	}
}

func TestWhichErrorIsFirst(t *testing.T) {
	bad := "code 2 1 0;set r0 0;push a0 r0;load r1 a0 r0;push a0 r1;set r0 2;store a0 r0 r0;push a0 r0;halt"
	c := read(t, bad)
	for _, x := range []struct {
		fuel, cells int
		e           api.Errno
	}{
		// No more steps comes ahead of what is wrong with the next instruction.
		{0, 0, api.ErrFuel}, {1, 0, api.ErrFuel}, {2, 0, api.ErrCells}, {1, 9, api.ErrFuel},
		{3, 1, api.ErrFuel}, {4, 1, api.ErrCells}, {3, 0, api.ErrCells}, {5, 1, api.ErrCells},
		{5, 2, api.ErrFuel}, {6, 2, api.ErrRange}, {99, 2, api.ErrRange}, {99, 3, api.ErrRange}, {6, 99, api.ErrRange},
		{6, 1, api.ErrCells}, {99, 0, api.ErrCells}, {math.MaxInt, 1, api.ErrCells}, {math.MaxInt, math.MaxInt, api.ErrRange},
	} {
		wantNone(t, c, x.fuel, x.cells, nil, x.e)
	}
	// A halt is a step, too; a push of no more room is one that was not done.
	wantNone(t, read(t, "code 0 0 0;halt"), 0, 0, nil, api.ErrFuel)
	wantNone(t, read(t, "code 0 0 0;jump 1;halt"), 1, 0, nil, api.ErrFuel)
}

func TestStepsAndRoomToTheNumber(t *testing.T) {
	squares := read(t, "code 5 3 1;set r0 0;len r1 a0;set r3 0;set r4 1;less r0 r1 7;push a2 r3;halt;load r2 a0 r0;mul r2 r2 r2;push a1 r2;add r3 r3 r2;add r0 r0 r4;jump 4")
	var in []int64
	for many := range 8 {
		r, path, e := runOf(squares, 999, 999, in)
		if e != api.OK || r.Steps != 7+7*many || r.Cells != many+1 {
			t.Fatalf("the squares of %v: got %v, error %d", in, r, e)
		}
		for fuel := range r.Steps + 3 {
			for cells := range r.Cells + 3 {
				e := wantWords(t, squares, fuel, cells, lists(in))
				if (e == api.OK) != (fuel >= r.Steps && cells >= r.Cells) {
					t.Errorf("%d, %d of %d, %d: error %d", fuel, cells, r.Steps, r.Cells, e)
				}
			}
		}
		want(t, squares, r.Steps, r.Cells, lists(in), r, path)
		in = append(in, int64(many*many-9))
	}
}

// Same

func TestSame(t *testing.T) {
	of := func(steps, cells int, out ...[]int64) api.Result {
		return api.Result{Out: out, Steps: steps, Cells: cells}
	}
	all := []api.Result{
		of(0, 0), of(1, 0), of(0, 1), of(1, 1), of(-1, 0), of(0, -1),
		of(0, 0, nil), of(0, 0, nil, nil), of(0, 0, []int64{0}), of(0, 0, []int64{1}), of(0, 0, []int64{1, 2}), of(0, 0, []int64{2, 1}),
		of(0, 0, []int64{1}, []int64{2}), of(0, 0, []int64{2}, []int64{1}), of(0, 0, nil, []int64{1}), of(0, 0, []int64{1}, nil), of(0, 0, []int64{1 + 1<<32}),
		of(2, 0, []int64{1}), of(0, 2, []int64{1}),
	}
	for k, a := range all {
		for n, b := range all {
			own := of(b.Steps, b.Cells)
			for _, l := range b.Out {
				own.Out = append(own.Out, slices.Clone(l))
			}
			if run.Same(a, own) != (k == n) {
				t.Errorf("Same of %v and %v: got %v", a, own, k != n)
			}
		}
	}
	// A list of none is nil, or empty.
	if !run.Same(of(0, 0), api.Result{Out: [][]int64{}}) || !run.Same(of(0, 0, nil), of(0, 0, []int64{})) {
		t.Error("a list without elements is not the same as none")
	}
}

// P16.2

func TestPath(t *testing.T) {
	c := read(t, "code 3 1 1;len r0 a0;set r1 0;same r0 r1 6;set r2 1;sub r0 r0 r2;jump 2;halt")
	for many, want := range [][]int{{0, 1, 2, 6}, {0, 1, 2, 3, 4, 5, 2, 6}, {0, 1, 2, 3, 4, 5, 2, 3, 4, 5, 2, 6}} {
		if l, e := run.Path(c, len(want), 0, make([]int64, many)); !slices.Equal(l, want) || e != api.OK {
			t.Errorf("got %v, error %d; want %v", l, e, want)
		}
		if l, e := run.Path(c, len(want)-1, 0, make([]int64, many)); len(l) > 0 || e != api.ErrFuel {
			t.Errorf("got %v, error %d", l, e)
		}
		if n, m, e := run.Need(c, math.MaxInt, 0, make([]int64, many)); n != len(want) || m != 0 || e != api.OK {
			t.Errorf("got %d, %d, error %d", n, m, e)
		}
	}
}
