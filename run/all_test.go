package run_test

import (
	"math"
	"slices"
	"strconv"
	"strings"
	"testing"

	"purfle/api"
	"purfle/code"
	"purfle/run"
	"purfle/valid"
)

// picks are numbers that look like no order.
type picks uint64

// below is the next one, from 0 on.
func (p *picks) below(n int) int {
	*p = *p*6364136223846793005 + 1442695040888963407
	return int(*p>>33) % n
}

// number is one of those that numbers go around at, or a small one.
func (p *picks) number() int64 {
	if p.below(3) > 0 {
		return int64(p.below(6) - 1)
	}
	l := []int64{math.MinInt64, math.MinInt64 + 1, math.MaxInt64, math.MaxInt64 - 1, 1 << 32, -1 << 32, 3037000500, 1 << 62, -7, 1e18}
	return l[p.below(len(l))]
}

// input is what is handed in.
func (p *picks) input(many int) [][]int64 {
	l := make([][]int64, many)
	for k := range l {
		for range p.below(5) {
			l[k] = append(l[k], p.number())
		}
	}
	return l
}

// line is one of code's, that goes on to one not too far away, mostly to one behind it.
func (p *picks) line(at int, c api.Code) string {
	r := func() string { return " r" + strconv.Itoa(p.below(c.Regs)) }
	any := " a" + strconv.Itoa(p.below(c.Arrays))
	own := any
	if c.In < c.Arrays && p.below(60) > 0 {
		own = " a" + strconv.Itoa(c.In+p.below(c.Arrays-c.In))
	}
	to := min(at+1+p.below(5), len(c.L)-1)
	if p.below(4) == 0 {
		to = p.below(len(c.L))
	}
	place := " " + strconv.Itoa(to)
	kind := p.below(16)
	if at == len(c.L)-1 {
		kind = []int{0, 0, 0, 10}[p.below(4)]
	}
	switch kind {
	case 0:
		return "halt"
	case 2:
		return "move" + r() + r()
	case 3, 4, 5:
		return []string{"add", "sub", "mul"}[kind-3] + r() + r() + r()
	case 6, 13:
		return "load" + r() + any + r()
	case 7:
		return "store" + own + r() + r()
	case 8:
		return "len" + r() + any
	case 9, 14, 15:
		return "push" + own + r()
	case 10:
		return "jump" + place
	case 11, 12:
		return []string{"less", "same"}[kind-11] + r() + r() + place
	}
	return "set" + r() + " " + strconv.Itoa(p.below(4))
}

// anyCode is some that may be, of at most so many lines; mostly all of its registers are set ahead of all.
func (p *picks) anyCode(t *testing.T, most int) api.Code {
	t.Helper()
	c := api.Code{Regs: 1 + p.below(5), Arrays: 1 + p.below(4), L: make([]api.Ins, 1+p.below(most))}
	c.In = p.below(c.Arrays + 1)
	sets := c.Regs
	if p.below(8) == 0 {
		sets = 0
	}
	l := []string{"code " + strconv.Itoa(c.Regs) + " " + strconv.Itoa(c.Arrays) + " " + strconv.Itoa(c.In)}
	for at := range c.L {
		s := p.line(at, c)
		if at < sets && at < len(c.L)-1 {
			s = "set r" + strconv.Itoa((at+1)%c.Regs) + " " + strconv.Itoa(p.below(3))
		}
		l = append(l, s)
	}
	return read(t, strings.Join(l, ";"))
}

// anyLoop is code that does some lines, that go on to what is behind them, so many times; registers that these do not name tell how often.
func (p *picks) anyLoop(t *testing.T) api.Code {
	t.Helper()
	c := api.Code{Regs: 3, Arrays: 1 + p.below(3), L: make([]api.Ins, 5+p.below(12))}
	c.In = p.below(c.Arrays)
	l := []string{"code 6 " + strconv.Itoa(c.Arrays) + " " + strconv.Itoa(c.In), "set r3 1", "set r4 0", "set r5 " + strconv.Itoa(1+p.below(20))}
	body := len(l) - 1 + c.Regs
	for k := range c.Regs {
		l = append(l, "set r"+strconv.Itoa(k)+" "+strconv.Itoa(p.below(3)))
	}
	c.L = append(make([]api.Ins, body), c.L...)
	for at := body; at < len(c.L); {
		s := p.line(at, c)
		w := strings.Fields(s)
		to, e := strconv.Atoi(w[len(w)-1])
		if (w[0] == "load" || w[0] == "store") && p.below(5) > 0 {
			continue
		}
		if s != "halt" && (e != nil || w[0] == "set" || to > at) {
			l = append(l, s)
			at++
		} else if at == len(c.L)-1 {
			l = append(l, "push a"+strconv.Itoa(c.In)+" r0")
			at++
		}
	}
	l = append(l, "sub r5 r5 r3", "less r4 r5 "+strconv.Itoa(body), "halt")
	return read(t, strings.Join(l, ";"))
}

func TestManyCodes(t *testing.T) {
	seen, long := map[api.Errno]int{}, 0
	for salt := range 40000 {
		p := picks(salt)
		c := p.anyCode(t, 4+p.below(40))
		fuel, cells := p.below(160), p.below(12)
		if p.below(3) == 0 {
			c = p.anyLoop(t)
			fuel, cells = p.below(400), p.below(80)
		}
		many := c.In
		if p.below(20) == 0 {
			many = p.below(4)
		}
		in := p.input(many)
		if p.below(30) == 0 {
			fuel -= 100
		}
		if p.below(30) == 0 {
			cells = -1
		}
		e := wantWords(t, c, fuel, cells, in)
		seen[e]++
		if r, _, _ := runOf(c, fuel, cells, in...); r.Steps > 30 {
			long++
		}
		if t.Failed() {
			text, _ := code.Text(c)
			t.Fatalf("of\n%s", text)
		}
	}
	for _, e := range []api.Errno{api.OK, api.ErrArg, api.ErrName, api.ErrRange, api.ErrFuel, api.ErrCells} {
		if seen[e] < 1000 {
			t.Errorf("error %d came %d times alone: the codes are not such as they should be", e, seen[e])
		}
	}
	if long < 1000 {
		t.Errorf("%d took long: the codes are not such as they should be", long)
	}
}

// smallLines are lines of code of 2 registers and 2 arrays, that has so many lines behind its first two.
func smallLines(many int) []string {
	l := []string{"halt", "add r0 r0 r1", "sub r1 r1 r0", "load r0 a0 r1", "load r1 a1 r0", "store a1 r0 r1", "len r1 a1", "push a1 r0"}
	for to := range many {
		s := strconv.Itoa(2 + to)
		l = append(l, "jump "+s, "less r0 r1 "+s, "same r0 r1 "+s)
	}
	return l
}

// eachSmall hands on the text of all code of so many of these lines.
func eachSmall(many int, do func(string)) {
	var further func(s string, left int)
	further = func(s string, left int) {
		for _, line := range smallLines(many) {
			if left > 1 {
				further(s+"\n"+line, left-1)
			} else if line == "halt" || line[0] == 'j' {
				do(s + "\n" + line)
			}
		}
	}
	further("code 2 2 1\nset r0 0\nset r1 1", many)
}

func TestAllSmallCodes(t *testing.T) {
	seen := map[api.Errno]int{}
	for many := 1; many <= 3; many++ {
		eachSmall(many, func(s string) {
			c := read(t, s)
			for _, x := range [][2]int{{9, 9}, {9, 1}, {4, 0}, {many + 1, 1}} {
				seen[wantWords(t, c, x[0], x[1], lists([]int64{0, 2}))]++
			}
			if t.Failed() {
				t.Fatalf("of\n%s", s)
			}
		})
	}
	for _, e := range []api.Errno{api.OK, api.ErrRange, api.ErrFuel, api.ErrCells} {
		if seen[e] < 100 {
			t.Errorf("error %d came %d times alone", e, seen[e])
		}
	}
}

// The bounds of code

func TestAllRegisters(t *testing.T) {
	c := api.Code{Regs: api.MaxRegs, Arrays: 1}
	var out []int64
	for r := range api.MaxRegs {
		c.L = append(c.L, api.Ins{Op: api.SetI, A: r, N: int64(r*r + 1)})
		out = append(out, int64(r*r+1))
	}
	for r := range api.MaxRegs {
		c.L = append(c.L, api.Ins{Op: api.PushI, B: r})
	}
	c.L = append(c.L, api.Ins{})
	wantWords(t, c, 257, 128, nil)
	if r, e := run.Run(c, 257, 128); e != api.OK || !sameResult(r, api.Result{Out: lists(out), Steps: 257, Cells: 128}) {
		t.Errorf("got %v, error %d", r, e)
	}
	wantNone(t, c, 256, 128, nil, api.ErrFuel)
	wantNone(t, c, 257, 127, nil, api.ErrCells)
}

func TestAllArrays(t *testing.T) {
	for _, many := range []int{0, 1, 64, 127, 128} {
		c := api.Code{Regs: 1, Arrays: api.MaxArrays, In: many, L: []api.Ins{{Op: api.SetI, N: 0}}}
		for k := many; k < api.MaxArrays; k++ {
			c.L = append(c.L, api.Ins{Op: api.LenI, B: k % max(many, 1)}, api.Ins{Op: api.PushI, A: k})
		}
		c.L = append(c.L, api.Ins{})
		in, out := make([][]int64, many), make([][]int64, api.MaxArrays-many)
		for k := range in {
			in[k] = make([]int64, k)
		}
		for k := range out {
			out[k] = []int64{int64((k + many) % max(many, 1))}
			if many == 0 && k > 0 {
				out[k] = []int64{1}
			}
		}
		r, e := run.Run(c, 999, 999, in...)
		if e != api.OK || !sameResult(r, api.Result{Out: out, Steps: 2 + 2*len(out), Cells: len(out)}) {
			t.Errorf("%d handed in: got %v, error %d; want %v", many, r, e, out)
		}
		wantWords(t, c, 999, 999, in)
		wantNone(t, c, 999, 999, append(in, nil), api.ErrArg)
	}
}

func TestAllInstructions(t *testing.T) {
	c := api.Code{Regs: 1, Arrays: 1, L: make([]api.Ins, api.MaxIns)}
	path := []int{0}
	for at := range c.L {
		c.L[at] = api.Ins{Op: api.JumpI, A: api.MaxIns - at}
	}
	// From behind to the middle: 0, 4095, 1, 4094 ..
	c.L[0].A = api.MaxIns - 1
	for low, high := 1, api.MaxIns-1; low < high; low, high = low+1, high-1 {
		c.L[high].A, c.L[low].A = low, high-1
		path = append(path, high, low)
	}
	path = append(path, api.MaxIns/2)
	c.L[api.MaxIns/2] = api.Ins{}
	want(t, c, api.MaxIns, 0, nil, api.Result{Out: lists(nil), Steps: api.MaxIns}, path)
	wantNone(t, c, api.MaxIns-1, 0, nil, api.ErrFuel)
}

func TestManySteps(t *testing.T) {
	c := read(t, "code 3 1 0;set r0 0;set r1 3000000;set r2 1;less r0 r1 6;push a0 r0;halt;add r0 r0 r2;jump 3")
	const steps = 3 + 3*3000000 + 3
	if r, e := run.Run(c, steps, 1); e != api.OK || !sameResult(r, api.Result{Out: lists([]int64{3000000}), Steps: steps, Cells: 1}) {
		t.Errorf("got %v, error %d", r, e)
	}
	if l, e := run.Path(c, steps, 1); e != api.OK || len(l) != steps || l[steps-1] != 5 || l[steps-4] != 7 {
		t.Errorf("got %d steps, error %d", len(l), e)
	}
	wantNone(t, c, steps-1, 1, nil, api.ErrFuel)
	wantNone(t, read(t, "code 0 0 0;jump 0"), 10000000, 0, nil, api.ErrFuel)
	wantNone(t, read(t, "code 1 1 0;set r0 7;push a0 r0;jump 1"), 10000000, 1000000, nil, api.ErrCells)
}

// Code that does something: what it comes to is known otherwise.

func TestSorting(t *testing.T) {
	// The numbers are pushed, and then each is put to its place among those ahead of it.
	c := read(t, "code 8 2 1;set r0 0;set r1 1;len r2 a0;less r0 r2 5;jump 9;load r3 a0 r0;push a1 r3;add r0 r0 r1;jump 3;"+
		"set r0 0;set r7 0;less r0 r2 13;halt;move r4 r0;same r4 r7 22;sub r5 r4 r1;load r3 a1 r5;load r6 a1 r4;less r6 r3 24;jump 22;halt;halt;add r0 r0 r1;jump 11;store a1 r4 r3;store a1 r5 r6;move r4 r5;jump 14")
	p := picks(5)
	for many := range 40 {
		in := make([]int64, many)
		for k := range in {
			in[k] = p.number() * int64(p.below(5))
		}
		sorted := slices.Clone(in)
		slices.Sort(sorted)
		r, e := run.Run(c, 1<<20, many, in)
		if e != api.OK || len(r.Out) != 1 || !slices.Equal(r.Out[0], sorted) || r.Cells != many {
			t.Fatalf("%v: got %v, error %d", in, r, e)
		}
		wantWords(t, c, r.Steps, many, lists(in))
	}
}

func TestCsrTimesDense(t *testing.T) {
	// a0 tells where each row begins, a1 the columns, a2 the numbers, a3 what it is multiplied by; a4 is what comes out.
	c := read(t, "code 10 5 4;set r0 0;set r1 1;len r2 a0;sub r2 r2 r1;less r0 r2 6;halt;load r3 a0 r0;add r4 r0 r1;load r4 a0 r4;set r5 0;less r3 r4 14;push a4 r5;add r0 r0 r1;jump 4;"+
		"load r6 a1 r3;load r7 a2 r3;load r8 a3 r6;mul r7 r7 r8;add r5 r5 r7;add r3 r3 r1;jump 10")
	in := lists([]int64{0, 2, 2, 3}, []int64{0, 2, 1}, []int64{5, math.MaxInt64, -7}, []int64{10, 20, 3})
	want := int64(50)
	for range 3 {
		want += math.MaxInt64
	}
	r, e := run.Run(c, 999, 3, in...)
	if e != api.OK || !sameResult(r, api.Result{Out: lists([]int64{want, 0, -140}), Steps: r.Steps, Cells: 3}) {
		t.Errorf("got %v, error %d", r, e)
	}
	wantWords(t, c, 999, 3, in)
	// A column that is none.
	in[1][1] = 3
	wantNone(t, c, 999, 3, in, api.ErrRange)
}

// P16.3

// checked hands on code that is checked, with what is handed in to it.
func checked(t *testing.T, many int, do func(p *picks, c api.Code, in [][]int64)) {
	t.Helper()
	came := 0
	for salt := range many {
		p := picks(salt + 100000)
		c := p.anyCode(t, 4+p.below(30))
		if valid.Check(c) == api.OK {
			came++
			do(&p, c, p.input(c.In))
		}
	}
	if came < many/4 {
		t.Errorf("%d of %d are checked", came, many)
	}
}

func TestNothingElseIsEverWrong(t *testing.T) {
	seen := map[api.Errno]int{}
	checked(t, 12000, func(p *picks, c api.Code, in [][]int64) {
		_, e := run.Run(c, p.below(200), p.below(20), in...)
		seen[e]++
	})
	for _, e := range []api.Errno{api.OK, api.ErrRange, api.ErrFuel, api.ErrCells} {
		if seen[e] < 100 {
			t.Errorf("error %d came %d times alone", e, seen[e])
		}
		delete(seen, e)
	}
	if len(seen) > 0 {
		t.Errorf("others came: %v", seen)
	}
}

func TestWithMoreItComesToTheSameWithLessItRunsOut(t *testing.T) {
	ended, pushed := 0, 0
	checked(t, 12000, func(p *picks, c api.Code, in [][]int64) {
		r, e := run.Run(c, 300, 100, in...)
		if e != api.OK {
			return
		}
		ended++
		path, _ := run.Path(c, 300, 100, in...)
		for _, fuel := range []int{r.Steps, r.Steps + 1 + p.below(9), math.MaxInt} {
			for _, cells := range []int{r.Cells, r.Cells + 1 + p.below(9), math.MaxInt} {
				want(t, c, fuel, cells, in, r, path)
			}
		}
		wantNone(t, c, r.Steps-1, r.Cells, in, api.ErrFuel)
		wantNone(t, c, r.Steps-1, math.MaxInt, in, api.ErrFuel)
		if r.Cells > 0 {
			pushed++
			wantNone(t, c, r.Steps, r.Cells-1, in, api.ErrCells)
			wantNone(t, c, math.MaxInt, r.Cells-1, in, api.ErrCells)
		}
	})
	if ended < 2000 || pushed < 700 {
		t.Errorf("%d ended, %d of them pushed: the codes are not such as they should be", ended, pushed)
	}
}

func TestPathIsAWay(t *testing.T) {
	checked(t, 8000, func(p *picks, c api.Code, in [][]int64) {
		l, e := run.Path(c, 300, 100, in...)
		if e != api.OK {
			return
		}
		pushed := 0
		for k, at := range l {
			if c.L[at].Op == api.PushI {
				pushed++
			}
			next := code.Next(c.L[at], at)
			if k+1 < len(l) && !slices.Contains(next, l[k+1]) || k+1 == len(l) && c.L[at].Op != api.HaltI {
				t.Fatalf("%v: its path is %v", c, l)
			}
		}
		steps, cells, _ := run.Need(c, 300, 100, in...)
		if l[0] != 0 || steps != len(l) || cells != pushed {
			t.Fatalf("%v: its path is %v; it needs %d, %d", c, l, steps, cells)
		}
	})
}

func TestTrimmedOrShiftedItComesToTheSame(t *testing.T) {
	checked(t, 8000, func(p *picks, c api.Code, in [][]int64) {
		r, e := run.Run(c, 300, 100, in...)
		trim, _ := valid.Trim(c)
		if x, f := run.Run(trim, 300, 100, in...); !sameResult(x, r) || f != e {
			t.Fatalf("%v: got %v, error %d; trimmed %v, error %d", c, r, e, x, f)
		}
		by := p.below(5)
		shift, _ := code.Shift(c, by)
		x, f := run.Run(shift, 300+by, 100, in...)
		if e == api.OK {
			r.Steps += by
		}
		if !sameResult(x, r) || f != e {
			t.Fatalf("%v: got %v, error %d; shifted by %d %v, error %d", c, r, e, by, x, f)
		}
	})
}

// R2

// fill writes into all of a list, also behind its end.
func fill[T any](l []T, x T) {
	for k := range l[:cap(l)] {
		l[:cap(l)][k] = x
	}
}

// roomy is a list with numbers behind its end.
func roomy(l []int64) []int64 {
	return append(slices.Clone(l), 77, 78, 79)[:len(l)]
}

// wholeLists are lists with what stands behind their ends.
func wholeLists(l [][]int64) [][]int64 {
	var w [][]int64
	for _, x := range l[:cap(l)] {
		w = append(w, slices.Clone(x[:cap(x)]))
	}
	return w
}

func TestNothingHandedInIsChangedOrShared(t *testing.T) {
	checked(t, 4000, func(p *picks, c api.Code, given [][]int64) {
		c.L = append(c.L, api.Ins{Op: 77}, api.Ins{Op: 77})[:len(c.L)]
		in := append(slices.Clone(given), []int64{1}, []int64{2})[:len(given)]
		for k := range in {
			in[k] = roomy(in[k])
		}
		own := c
		own.L = slices.Clone(c.L[:cap(c.L)])
		was := wholeLists(in)
		unchanged := func(what string) {
			t.Helper()
			if !slices.Equal(c.L[:cap(c.L)], own.L) || !slices.EqualFunc(wholeLists(in), was, slices.Equal[[]int64]) {
				t.Fatalf("%s changed what is handed in: %v, %v", what, c, in)
			}
		}
		r, e := run.Run(c, 300, 100, in...)
		unchanged("Run")
		path, _ := run.Path(c, 300, 100, in...)
		unchanged("Path")
		run.Need(c, 300, 100, in...)
		unchanged("Need")
		x, way, f := runOf(c, 300, 100, given...)
		// What is written into what was handed in, once that is answered, is not seen in it.
		for k := range in {
			fill(in[k], 55)
		}
		fill(c.L, api.Ins{Op: 78})
		if !sameResult(r, x) || !slices.Equal(path, way) || e != f {
			t.Fatalf("%v: got %v, %v, error %d; want %v, %v, error %d", own, r, path, e, x, way, f)
		}
		own.L, was = slices.Clone(c.L[:cap(c.L)]), wholeLists(in)
		for _, l := range r.Out {
			fill(l, 56)
		}
		fill(r.Out, nil)
		fill(path, 57)
		unchanged("who wrote to what was answered")
	})
}

func TestNoTwoListsOfAnAnswerShareAny(t *testing.T) {
	checked(t, 3000, func(p *picks, c api.Code, in [][]int64) {
		r, _ := run.Run(c, 300, 100, in...)
		seen, many := map[*int64]struct{}{}, 0
		for _, l := range slices.Concat(r.Out, in) {
			many += cap(l)
			for k := range l[:cap(l)] {
				seen[&l[:cap(l)][k]] = struct{}{}
			}
		}
		if len(seen) != many {
			t.Fatalf("%v: its lists share what they have", c)
		}
	})
}

func TestSameChangesNothing(t *testing.T) {
	a, b := roomy([]int64{1, 2}), roomy([]int64{1, 2})
	if !run.Same(api.Result{Out: lists(a)}, api.Result{Out: lists(b)}) || !slices.Equal(a[:cap(a)][:5], b[:cap(b)][:5]) || a[0] != 1 || a[:5][4] != 79 {
		t.Errorf("got %v, %v", a[:5], b[:5])
	}
}

func TestNothingIsKept(t *testing.T) {
	a := read(t, "code 2 2 1;set r0 0;load r1 a0 r0;push a1 r1;len r0 a1;push a1 r0;halt")
	b := read(t, "code 1 1 0;len r0 a0;push a0 r0;halt")
	for n := range int64(3) {
		want(t, a, 6, 2, lists([]int64{n}), api.Result{Out: lists([]int64{n, 1}), Steps: 6, Cells: 2}, []int{0, 1, 2, 3, 4, 5})
		wantNone(t, a, 6, 1, lists([]int64{n}), api.ErrCells)
		want(t, b, 3, 1, nil, api.Result{Out: lists([]int64{0}), Steps: 3, Cells: 1}, []int{0, 1, 2})
		wantNone(t, b, 2, 1, nil, api.ErrFuel)
	}
}
