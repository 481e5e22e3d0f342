package code_test

import (
	"math"
	"slices"
	"testing"

	"purfle/api"
	"purfle/code"
)

// start is code without what is behind its first instructions, to be told.
func start(c api.Code) api.Code {
	c.L = c.L[:min(len(c.L), 10)]
	return c
}

// halts is code of so many instructions that end.
func halts(many int) api.Code { return api.Code{L: make([]api.Ins, many)} }

// room is code of 3 registers, 2 arrays, and 5 instructions, one of which is told.
func room(x api.Ins) api.Code {
	c := halts(5)
	c.Regs, c.Arrays, c.L[2] = 3, 2, x
	return c
}

// example has all instructions.
func example() api.Code {
	return api.Code{Regs: 4, Arrays: 3, In: 2, L: []api.Ins{
		{Op: api.SetI, A: 3, N: -7}, {Op: api.MoveI, A: 2, B: 3}, {Op: api.AddI, A: 1, B: 2, C: 3}, {Op: api.SubI, A: 3, B: 1, C: 2}, {Op: api.MulI, A: 2, B: 3, C: 1},
		{Op: api.LoadI, A: 3, B: 1, C: 2}, {Op: api.StoreI, A: 2, B: 3, C: 1}, {Op: api.LenI, A: 3, B: 2}, {Op: api.PushI, A: 2, B: 3}, {Op: api.LessI, A: 1, B: 2, C: 11},
		{Op: api.SameI, A: 3, B: 1, C: 12}, {Op: api.JumpI, A: 9}, {},
	}}
}

func wantCheck(t *testing.T, c api.Code, want api.Errno) {
	t.Helper()
	if e := code.Check(c); e != want {
		t.Errorf("Check of %v, %d instructions: error %d; want %d", start(c), len(c.L), e, want)
	}
}

// wantMay wants that code may be, or may not.
func wantMay(t *testing.T, c api.Code, may bool) {
	t.Helper()
	want := api.ErrArg
	if may {
		want = api.OK
	}
	wantCheck(t, c, want)
}

// P14.1

func TestCheck(t *testing.T) {
	wantCheck(t, halts(1), api.OK)
	wantCheck(t, example(), api.OK)
	wantCheck(t, api.Code{L: []api.Ins{{Op: api.JumpI}}}, api.OK)
	wantCheck(t, api.Code{}, api.ErrArg)
	wantCheck(t, api.Code{Regs: 1, Arrays: 1, In: 1, L: []api.Ins{}}, api.ErrArg)
}

// odd are numbers at bounds and beyond.
func odd() []int {
	return []int{math.MinInt, math.MinInt + 1, -1 << 32, -129, -128, -2, -1, 0, 1, 2, 3, 4, 5, 6, 126, 127, 128, 129, 130, 256, 4095, 4096, 4097, 1 << 32, 1<<32 + 1, math.MaxInt - 1, math.MaxInt}
}

func TestCheckOfHowManyThereAre(t *testing.T) {
	for _, a := range odd() {
		c := halts(1)
		c.Regs = a
		wantMay(t, c, a >= 0 && a <= 128)
		c.Regs, c.Arrays = 0, a
		wantMay(t, c, a >= 0 && a <= 128)
		for _, b := range odd() {
			c.In = b
			wantMay(t, c, a >= 0 && a <= 128 && b >= 0 && b <= a)
		}
	}
	for _, many := range []int{0, 1, 2, 3, 4094, 4095, 4096, 4097, 4098, 8192, 70000} {
		wantMay(t, halts(many), many >= 1 && many <= 4096)
	}
}

// set are all instructions of an Op whose numbers are 1, but one that is told.
func set(op, n int) []api.Ins {
	x := api.Ins{Op: op, A: 1, B: 1, C: 1, N: 1}
	for letter := range fieldsOf(x) {
		if _, is := standsFor(insTexts()[op], letter); !is {
			x = with(x, letter, 0)
		}
	}
	var l []api.Ins
	for _, letter := range []string{"A", "B", "C", "N"} {
		l = append(l, with(x, letter, n))
	}
	return l
}

// with is an instruction with another number.
func with(x api.Ins, letter string, n int) api.Ins {
	switch letter {
	case "A":
		x.A = n
	case "B":
		x.B = n
	case "C":
		x.C = n
	default:
		x.N = int64(n)
	}
	return x
}

func TestCheckOfEachInstruction(t *testing.T) {
	for op := range 13 {
		for _, n := range odd() {
			for _, x := range set(op, n) {
				c := room(x)
				wantMay(t, c, mayCode(c))
			}
		}
	}
	for _, x := range []struct {
		x   api.Ins
		may bool
	}{
		{api.Ins{Op: api.HaltI}, true}, {api.Ins{Op: api.HaltI, A: 1}, false}, {api.Ins{Op: api.HaltI, B: 1}, false}, {api.Ins{Op: api.HaltI, C: 1}, false}, {api.Ins{Op: api.HaltI, N: 1}, false}, {api.Ins{Op: api.HaltI, A: -1}, false},
		{api.Ins{Op: api.SetI, A: 2, N: 5}, true}, {api.Ins{Op: api.SetI, A: 3}, false}, {api.Ins{Op: api.SetI, A: -1}, false}, {api.Ins{Op: api.SetI, B: 1}, false}, {api.Ins{Op: api.SetI, C: 1}, false},
		{api.Ins{Op: api.MoveI, A: 2, B: 2}, true}, {api.Ins{Op: api.MoveI, A: 3, B: 2}, false}, {api.Ins{Op: api.MoveI, A: 2, B: 3}, false}, {api.Ins{Op: api.MoveI, C: 1}, false}, {api.Ins{Op: api.MoveI, N: 1}, false},
		{api.Ins{Op: api.AddI, A: 2, B: 2, C: 2}, true}, {api.Ins{Op: api.SubI, A: 2, B: 2, C: 2}, true}, {api.Ins{Op: api.MulI, A: 2, B: 2, C: 2}, true}, {api.Ins{Op: api.AddI, A: 3}, false}, {api.Ins{Op: api.SubI, B: 3}, false}, {api.Ins{Op: api.MulI, C: 3}, false}, {api.Ins{Op: api.MulI, N: -1}, false},
		{api.Ins{Op: api.LoadI, A: 2, B: 1, C: 2}, true}, {api.Ins{Op: api.LoadI, B: 2}, false}, {api.Ins{Op: api.LoadI, C: 3}, false}, {api.Ins{Op: api.LoadI, B: -1}, false},
		{api.Ins{Op: api.StoreI, A: 1, B: 2, C: 2}, true}, {api.Ins{Op: api.StoreI, A: 2}, false}, {api.Ins{Op: api.StoreI, B: 3}, false}, {api.Ins{Op: api.StoreI, C: 3}, false},
		{api.Ins{Op: api.LenI, A: 2, B: 1}, true}, {api.Ins{Op: api.LenI, A: 3}, false}, {api.Ins{Op: api.LenI, B: 2}, false}, {api.Ins{Op: api.LenI, C: 1}, false},
		{api.Ins{Op: api.PushI, A: 1, B: 2}, true}, {api.Ins{Op: api.PushI, A: 2}, false}, {api.Ins{Op: api.PushI, B: 3}, false}, {api.Ins{Op: api.PushI, C: 1}, false},
		{api.Ins{Op: api.JumpI, A: 4}, true}, {api.Ins{Op: api.JumpI, A: 5}, false}, {api.Ins{Op: api.JumpI, A: -1}, false}, {api.Ins{Op: api.JumpI, B: 1}, false}, {api.Ins{Op: api.JumpI, C: 1}, false}, {api.Ins{Op: api.JumpI, N: 1}, false},
		{api.Ins{Op: api.LessI, A: 2, B: 2, C: 4}, true}, {api.Ins{Op: api.LessI, C: 5}, false}, {api.Ins{Op: api.LessI, A: 3}, false}, {api.Ins{Op: api.LessI, C: -1}, false}, {api.Ins{Op: api.LessI, N: 1}, false},
		{api.Ins{Op: api.SameI, A: 2, B: 2, C: 4}, true}, {api.Ins{Op: api.SameI, C: 5}, false}, {api.Ins{Op: api.SameI, B: 3}, false}, {api.Ins{Op: api.SameI, A: -1}, false},
	} {
		wantMay(t, room(x.x), x.may)
	}
}

func TestCheckOfNumbers(t *testing.T) {
	for _, n := range []int64{-999999999999999999, -1, 0, 1, 999999999999999999} {
		wantCheck(t, room(api.Ins{Op: api.SetI, N: n}), api.OK)
	}
	for _, n := range []int64{-1000000000000000000, -1000000000000000001, 1000000000000000000, 1000000000000000001, math.MinInt64, math.MaxInt64} {
		wantCheck(t, room(api.Ins{Op: api.SetI, N: n}), api.ErrArg)
	}
}

func TestCheckOfWhatIsNoOp(t *testing.T) {
	for _, op := range []int{-1, -2, 13, 14, 128, 256, 257, 266, 1 << 32, 1<<32 + 10, math.MinInt, math.MaxInt} {
		wantCheck(t, room(api.Ins{Op: op}), api.ErrArg)
		wantCheck(t, api.Code{Regs: 1, L: []api.Ins{{Op: op}}}, api.ErrArg)
	}
}

func TestCheckWhereverItStands(t *testing.T) {
	for _, many := range []int{3, 4, 100, 4096} {
		for _, at := range []int{0, 1, many / 2, many - 2} {
			c := halts(many)
			c.Regs, c.L[at] = 1, api.Ins{Op: api.SetI}
			wantCheck(t, c, api.OK)
			c.L[at].A = 1
			wantCheck(t, c, api.ErrArg)
			c.L[at] = api.Ins{Op: api.JumpI, A: many - 1}
			wantCheck(t, c, api.OK)
			c.L[at].A = many
			wantCheck(t, c, api.ErrArg)
		}
	}
}

func TestCheckOfTheLast(t *testing.T) {
	for op := range 13 {
		c := room(api.Ins{})
		c.L[4].Op = op
		wantMay(t, c, op == api.HaltI || op == api.JumpI)
		c.L = c.L[4:]
		wantMay(t, c, op == api.HaltI || op == api.JumpI)
		// Ahead of the last one it may be any.
		wantCheck(t, room(api.Ins{Op: op}), api.OK)
	}
}

func TestCheckOfWhatThereIsNoneOf(t *testing.T) {
	// Of no registers, or arrays, none may be named; of all the last one may.
	for op, text := range insTexts() {
		x := api.Ins{Op: op}
		c := room(x)
		c.Regs, c.Arrays = 0, 0
		wantMay(t, c, op == api.HaltI || op == api.JumpI)
		c.Regs = 128
		_, array := last(text, "a")
		wantMay(t, c, !array)
		c.Regs, c.Arrays = 0, 128
		_, register := last(text, "r")
		wantMay(t, c, !register)
		for _, n := range []int{127, 128} {
			c = room(x)
			c.Regs, c.Arrays = 128, 128
			letter, is := last(text, "r")
			if is {
				c.L[2] = with(c.L[2], letter, n)
			}
			other, isToo := last(text, "a")
			if isToo {
				c.L[2] = with(c.L[2], other, n)
			}
			wantMay(t, c, !is && !isToo || n == 127)
		}
	}
}

// last is the last letter of a text that stands for what is told.
func last(text, what string) (string, bool) {
	for _, letter := range []string{"C", "B", "A"} {
		if ahead, is := standsFor(text, letter); is && ahead == what {
			return letter, true
		}
	}
	return "", false
}

func TestReadsWritesNext(t *testing.T) {
	// Of whatever numbers.
	for _, n := range []int{0, 1, 40, -1, 1000, math.MaxInt - 9, math.MinInt} {
		a, b, c := n, n+1, n+2
		for op, x := range []struct {
			reads  []int
			writes bool
			next   []int
		}{
			api.HaltI: {nil, false, nil}, api.SetI: {nil, true, []int{8}}, api.MoveI: {[]int{b}, true, []int{8}},
			api.AddI: {[]int{b, c}, true, []int{8}}, api.SubI: {[]int{b, c}, true, []int{8}}, api.MulI: {[]int{b, c}, true, []int{8}},
			api.LoadI: {[]int{c}, true, []int{8}}, api.StoreI: {[]int{b, c}, false, []int{8}}, api.LenI: {nil, true, []int{8}}, api.PushI: {[]int{b}, false, []int{8}},
			api.JumpI: {nil, false, []int{a}}, api.LessI: {[]int{a, b}, false, []int{8, c}}, api.SameI: {[]int{a, b}, false, []int{8, c}},
		} {
			want := 0
			if x.writes {
				want = a
			}
			wantIns(t, api.Ins{Op: op, A: a, B: b, C: c, N: 5}, 7, x.reads, want, x.writes, x.next)
		}
	}
}

func wantIns(t *testing.T, x api.Ins, at int, reads []int, writes int, is bool, next []int) {
	t.Helper()
	if l := code.Reads(x); !slices.Equal(l, reads) {
		t.Errorf("Reads of %v: got %v; want %v", x, l, reads)
	}
	if n, sets := code.Writes(x); n != writes || sets != is {
		t.Errorf("Writes of %v: got %d, %v; want %d, %v", x, n, sets, writes, is)
	}
	if l := code.Next(x, at); !slices.Equal(l, next) {
		t.Errorf("Next of %v at %d: got %v; want %v", x, at, l, next)
	}
}

func TestWhatStandsTwiceIsToldTwice(t *testing.T) {
	wantIns(t, api.Ins{Op: api.AddI, A: 4, B: 4, C: 4}, 0, []int{4, 4}, 4, true, []int{1})
	wantIns(t, api.Ins{Op: api.StoreI, A: 2, B: 2, C: 2}, 0, []int{2, 2}, 0, false, []int{1})
	wantIns(t, api.Ins{Op: api.LessI, A: 3, B: 3, C: 6}, 5, []int{3, 3}, 0, false, []int{6, 6})
	wantIns(t, api.Ins{Op: api.SameI, A: 3, B: 3}, -1, []int{3, 3}, 0, false, []int{0, 0})
	wantIns(t, api.Ins{Op: api.JumpI, A: 5}, 5, nil, 0, false, []int{5})
}

func TestReadsWritesNextOfWhatIsNoOp(t *testing.T) {
	for _, op := range []int{-1, -2, 13, 14, 128, 256, 257, 266, 1 << 32, 1<<32 + 10, math.MinInt, math.MaxInt} {
		wantIns(t, api.Ins{Op: op, A: 1, B: 2, C: 3, N: 4}, 6, nil, 0, false, nil)
	}
}

func TestReadsWritesNextOfAny(t *testing.T) {
	for salt := range 20000 {
		p := picks(salt)
		x := api.Ins{Op: p.below(15) - 1, A: p.below(9) - 1, B: p.below(9) - 1, C: p.below(9) - 1, N: int64(p.below(9) - 1)}
		at := p.below(5000) - 1
		n, is := writesOf(x)
		wantIns(t, x, at, readsOf(x), n, is, nextOf(x, at))
	}
}

func TestSame(t *testing.T) {
	a := example()
	for k := range a.L {
		for change := range 5 {
			b := example()
			x := []*int{&b.L[k].Op, &b.L[k].A, &b.L[k].B, &b.L[k].C}
			if change == 4 {
				b.L[k].N++
			} else {
				*x[change] += 1 << 40
			}
			wantSame(t, a, b, false)
		}
	}
	for _, b := range []api.Code{
		{Regs: 5, Arrays: 3, In: 2, L: a.L}, {Regs: 4, Arrays: 2, In: 2, L: a.L}, {Regs: 4, Arrays: 3, In: 1, L: a.L}, {Regs: 4, Arrays: 3, In: 2}, {Regs: 3, Arrays: 4, In: 2, L: a.L}, {L: a.L},
		{Regs: 4, Arrays: 3, In: 2, L: a.L[1:]}, {Regs: 4, Arrays: 3, In: 2, L: a.L[:12]}, {Regs: 4, Arrays: 3, In: 2, L: append(example().L, api.Ins{})}, {Regs: 4, Arrays: 3, In: 2, L: append([]api.Ins{{}}, a.L...)},
	} {
		wantSame(t, a, b, false)
	}
	wantSame(t, a, example(), true)
	// Be they such as may be or not.
	wantSame(t, api.Code{}, api.Code{L: []api.Ins{}}, true)
	wantSame(t, api.Code{Regs: -1, In: 9}, api.Code{Regs: -1, In: 9}, true)
	wantSame(t, api.Code{Regs: -1, In: 9}, api.Code{Regs: -1, In: 8}, false)
	wantSame(t, api.Code{L: []api.Ins{{Op: 77, N: math.MinInt64}}}, api.Code{L: []api.Ins{{Op: 77, N: math.MinInt64}}}, true)
	wantSame(t, api.Code{L: []api.Ins{{Op: 77}}}, api.Code{L: []api.Ins{{Op: 78}}}, false)
	wantSame(t, halts(5000), halts(5000), true)
	wantSame(t, halts(5000), halts(5001), false)
}

func wantSame(t *testing.T, a, b api.Code, want bool) {
	t.Helper()
	if code.Same(a, b) != want || code.Same(b, a) != want {
		t.Errorf("Same of %v and %v: not %v", start(a), start(b), want)
	}
}

// P14.3

func wantShift(t *testing.T, c api.Code, by int, want api.Code, f api.Errno) {
	t.Helper()
	if s, e := code.Shift(c, by); !sameCode(s, want) || e != f {
		t.Errorf("Shift of %v by %d: got %v, %d instructions, error %d; want %v, %d instructions, error %d", start(c), by, start(s), len(s.L), e, start(want), len(want.L), f)
	}
}

func TestShift(t *testing.T) {
	want := api.Code{Regs: 4, Arrays: 3, In: 2, L: []api.Ins{
		{Op: api.JumpI, A: 1}, {Op: api.JumpI, A: 2},
		{Op: api.SetI, A: 3, N: -7}, {Op: api.MoveI, A: 2, B: 3}, {Op: api.AddI, A: 1, B: 2, C: 3}, {Op: api.SubI, A: 3, B: 1, C: 2}, {Op: api.MulI, A: 2, B: 3, C: 1},
		{Op: api.LoadI, A: 3, B: 1, C: 2}, {Op: api.StoreI, A: 2, B: 3, C: 1}, {Op: api.LenI, A: 3, B: 2}, {Op: api.PushI, A: 2, B: 3}, {Op: api.LessI, A: 1, B: 2, C: 13},
		{Op: api.SameI, A: 3, B: 1, C: 14}, {Op: api.JumpI, A: 11}, {},
	}}
	wantShift(t, example(), 2, want, api.OK)
	wantShift(t, example(), 0, example(), api.OK)
	wantShift(t, halts(1), 1, api.Code{L: []api.Ins{{Op: api.JumpI, A: 1}, {}}}, api.OK)
	wantShift(t, api.Code{L: []api.Ins{{Op: api.JumpI}}}, 1, api.Code{L: []api.Ins{{Op: api.JumpI, A: 1}, {Op: api.JumpI, A: 1}}}, api.OK)
}

func TestShiftErrors(t *testing.T) {
	for _, by := range odd() {
		want, e := shiftOf(example(), by)
		wantShift(t, example(), by, want, e)
		// Of code that may not be.
		for _, c := range []api.Code{{}, halts(4097), {Regs: 129, L: make([]api.Ins, 1)}, room(api.Ins{Op: 13}), {L: []api.Ins{{Op: api.SetI}}}, {L: []api.Ins{{Op: api.JumpI, A: 1}}}} {
			wantShift(t, c, by, api.Code{}, api.ErrArg)
		}
	}
	for _, many := range []int{1, 2, 2048, 4095, 4096} {
		for _, by := range []int{-1, 0, 1, 2047, 2048, 2049, 4094, 4095, 4096, 4097, math.MaxInt} {
			want, e := shiftOf(halts(many), by)
			wantShift(t, halts(many), by, want, e)
		}
	}
	// By more than there may be instructions is wrong, not too much.
	wantShift(t, halts(4096), 4096, api.Code{}, api.ErrLarge)
	wantShift(t, halts(4096), 4097, api.Code{}, api.ErrArg)
	wantShift(t, halts(1), 4096, api.Code{}, api.ErrLarge)
}
