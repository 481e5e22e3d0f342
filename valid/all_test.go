package valid_test

import (
	"slices"
	"testing"

	"purfle/api"
	"purfle/code"
	"purfle/valid"
)

// picks are numbers that look like no order.
type picks uint64

// below is the next one, from 0 on.
func (p *picks) below(n int) int {
	*p = *p*6364136223846793005 + 1442695040888963407
	return int(*p>>33) % n
}

// anyIns is an instruction of code, that goes on to one not too far away, mostly to one behind it.
func anyIns(p *picks, c api.Code, at int) api.Ins {
	r := func() int { return p.below(c.Regs) }
	to := min(at+1+p.below(6), len(c.L)-1)
	if p.below(5) == 0 {
		to = p.below(len(c.L))
	}
	array := p.below(c.Arrays)
	if p.below(40) > 0 && c.In < c.Arrays {
		array = c.In + p.below(c.Arrays-c.In)
	}
	kind := p.below(14)
	if kind == api.HaltI && p.below(4) > 0 {
		kind = api.LessI
	}
	if at == len(c.L)-1 {
		kind = []int{api.HaltI, api.HaltI, api.JumpI}[p.below(3)]
	}
	switch kind {
	case api.HaltI:
		return api.Ins{}
	case api.MoveI:
		return api.Ins{Op: kind, A: r(), B: r()}
	case api.AddI, api.SubI, api.MulI:
		return api.Ins{Op: kind, A: r(), B: r(), C: r()}
	case api.LoadI:
		return api.Ins{Op: kind, A: r(), B: p.below(c.Arrays), C: r()}
	case api.StoreI:
		return api.Ins{Op: kind, A: array, B: r(), C: r()}
	case api.LenI:
		return api.Ins{Op: kind, A: r(), B: p.below(c.Arrays)}
	case api.PushI:
		return api.Ins{Op: kind, A: array, B: r()}
	case api.JumpI:
		return api.Ins{Op: kind, A: to}
	case api.LessI, api.SameI:
		return api.Ins{Op: kind, A: r(), B: r(), C: to}
	}
	return api.Ins{Op: api.SetI, A: r(), N: int64(p.below(9) - 4)}
}

// anyCode is some that may be, of at most so many instructions and registers; some of these are set ahead of all.
func anyCode(p *picks, most, regs int) api.Code {
	c := api.Code{Regs: 1 + p.below(regs), Arrays: 1 + p.below(5), L: make([]api.Ins, 1+p.below(most))}
	c.In = p.below(c.Arrays + 1)
	sets := p.below(c.Regs + 1)
	if p.below(2) == 0 {
		sets = c.Regs
	}
	for at := range c.L {
		c.L[at] = anyIns(p, c, at)
		if at < sets && at < len(c.L)-1 {
			c.L[at] = api.Ins{Op: api.SetI, A: (at*5 + 3) % c.Regs}
		}
	}
	return c
}

func TestManyCodes(t *testing.T) {
	seen, unreached, loops, some := map[api.Errno]int{}, 0, 0, 0
	for salt := range 20000 {
		p := picks(salt)
		c := anyCode(&p, 4+p.below(60), 1+p.below(12))
		if p.below(20) == 0 {
			c.L[p.below(len(c.L))].A = []int{-1, c.Regs, c.Arrays, len(c.L), 128, 4096}[p.below(6)]
		}
		if e := code.Check(c); e != api.OK {
			wantNone(t, c, e)
			seen[e]++
			continue
		}
		wantAll(t, c)
		seen[checkOf(c)]++
		if slices.Contains(reachOf(c), false) {
			unreached++
		}
		if len(loopsOf(c)) > 0 {
			loops++
		}
		if len(unsetOf(c)) > 1 {
			some++
		}
	}
	for _, e := range []api.Errno{api.OK, api.ErrArg, api.ErrName, api.ErrRange} {
		if seen[e] < 500 {
			t.Errorf("error %d came %d times alone: the codes are not such as they should be", e, seen[e])
		}
	}
	if unreached < 5000 || loops < 5000 || some < 2000 {
		t.Errorf("%d not all reached, %d with loops, %d that ask for several: the codes are not such as they should be", unreached, loops, some)
	}
}

func TestLargeCodes(t *testing.T) {
	reached := 0
	for salt := range 100 {
		p := picks(salt + 7)
		c := anyCode(&p, 4096, 1+p.below(128))
		wantAllButTrim(t, c)
		for _, is := range reachOf(c) {
			if is {
				reached++
			}
		}
	}
	if reached < 50000 {
		t.Errorf("%d instructions are reached: the codes are not such as they should be", reached)
	}
}

// wantAllButTrim is wantAll of code that is too long to be trimmed by its words.
func wantAllButTrim(t *testing.T, c api.Code) {
	t.Helper()
	wantReach(t, c, reachOf(c))
	wantSet(t, c, setOf(c))
	wantUnset(t, c, unsetOf(c))
	wantCheck(t, c, checkOf(c))
	wantLoops(t, c, loopsOf(c))
}

// smallIns are instructions of code of 2 registers, an array, and so many instructions; some of one kind stand for others.
func smallIns(many int) []api.Ins {
	l := []api.Ins{{}, {Op: api.SetI}, {Op: api.LenI, A: 1}, {Op: api.LoadI, A: 1}, {Op: api.AddI, B: 1, C: 1}, {Op: api.PushI, B: 1}, {Op: api.StoreI, C: 1}}
	for to := range many {
		l = append(l, api.Ins{Op: api.JumpI, A: to}, api.Ins{Op: api.LessI, B: 1, C: to}, api.Ins{Op: api.SameI, C: to})
	}
	return l
}

// eachSmall hands on all code of so many of these instructions.
func eachSmall(many int, do func(api.Code)) {
	all, which := smallIns(many), make([]int, many)
	for {
		c := api.Code{Regs: 2, Arrays: 1, L: make([]api.Ins, many)}
		for k, n := range which {
			c.L[k] = all[n]
		}
		if last := c.L[many-1].Op; last == api.HaltI || last == api.JumpI {
			do(c)
		}
		k := 0
		for k < many && which[k] == len(all)-1 {
			which[k] = 0
			k++
		}
		if k == many {
			return
		}
		which[k]++
	}
}

func TestAllSmallCodes(t *testing.T) {
	for many := 1; many <= 4; many++ {
		eachSmall(many, func(c api.Code) {
			want, reached := setOnAll(c)
			got, e := valid.Set(c)
			l, f := valid.Reach(c)
			if e != api.OK || f != api.OK || !sameLists(got, want) || !slices.Equal(l, reached) {
				t.Fatalf("%v: got %v and %v, errors %d, %d; want %v and %v", c, l, got, f, e, reached, want)
			}
			for in := range 2 {
				c.In = in
				if e := valid.Check(c); e != checkOf(c) {
					t.Fatalf("Check of %v: error %d; want %d", c, e, checkOf(c))
				}
			}
		})
	}
}

// P15.4

// walk goes a way through code, of so many steps at the most, and hands on each place and what is set ahead of it; it tells whether it has ended.
func walk(c api.Code, p *picks, most int, see func(at int, set []bool)) bool {
	at, set := 0, make([]bool, c.Regs)
	for range most {
		see(at, set)
		if r := writesOf(c.L[at]); r >= 0 {
			set[r] = true
		}
		next := nextOf(c.L[at], at)
		if len(next) == 0 {
			return true
		}
		at = next[p.below(len(next))]
	}
	return false
}

func TestCheckedCodeSetsWhatItAsksFor(t *testing.T) {
	checked := 0
	for salt := range 6000 {
		p := picks(salt)
		c := anyCode(&p, 40, 6)
		set, _ := valid.Set(c)
		reached, _ := valid.Reach(c)
		is := valid.Check(c) == api.OK
		if is {
			checked++
		}
		for range 4 {
			walk(c, &p, 100, func(at int, now []bool) {
				for _, r := range readsOf(c.L[at]) {
					if is && !now[r] {
						t.Fatalf("%v: it is checked, but at %d register %d is not set", start(c), at, r)
					}
				}
				for _, r := range set[at] {
					if !now[r] {
						t.Fatalf("%v: at %d register %d is not set; Set has %v", start(c), at, r, set[at])
					}
				}
				if !reached[at] {
					t.Fatalf("%v: %d is reached", start(c), at)
				}
				if is && writesTo(c.L[at]) < c.In {
					t.Fatalf("%v: it is checked, but at %d it writes to what is handed in", start(c), at)
				}
			})
		}
	}
	if checked < 1500 {
		t.Errorf("%d of 6000 are checked", checked)
	}
}

// writesTo is the array that an instruction writes to, beyond all if it writes to none.
func writesTo(x api.Ins) int {
	if x.Op == api.StoreI || x.Op == api.PushI {
		return x.A
	}
	return api.MaxArrays
}

func TestTrimmedItGoesOnAsItDid(t *testing.T) {
	shorter := 0
	for salt := range 6000 {
		p := picks(salt)
		c := anyCode(&p, 40, 6)
		trim, e := valid.Trim(c)
		if e != api.OK || code.Check(trim) != api.OK {
			t.Fatalf("Trim of %v: got %v, error %d", start(c), start(trim), e)
		}
		for range 4 {
			way := p
			was := wayOf(c, &p)
			if got := wayOf(trim, &way); !slices.Equal(got, was) {
				t.Fatalf("%v goes %v; trimmed, as %v, it goes %v", start(c), was, start(trim), got)
			}
		}
		if len(trim.L) < len(c.L) {
			shorter++
		}
		wantTrim(t, trim, trim)
		wantReach(t, trim, slices.Repeat([]bool{true}, len(trim.L)))
		wantTold(t, c, trim)
	}
	if shorter < 1500 {
		t.Errorf("%d of 6000 are shorter", shorter)
	}
}

// wayOf is a way through code, as far as it is gone: its instructions, without their places.
func wayOf(c api.Code, p *picks) []api.Ins {
	var l []api.Ins
	walk(c, p, 100, func(at int, _ []bool) {
		x := c.L[at]
		switch x.Op {
		case api.JumpI:
			x.A = 0
		case api.LessI, api.SameI:
			x.C = 0
		}
		l = append(l, x)
	})
	return l
}

// wantTold wants that of trimmed code all that is told is what was, at other places.
func wantTold(t *testing.T, c, trim api.Code) {
	t.Helper()
	reached, _ := valid.Reach(c)
	set, _ := valid.Set(c)
	unset, _ := valid.Unset(c)
	loops, _ := valid.Loops(c)
	var left [][]int
	anew := map[int]int{}
	for at, is := range reached {
		anew[at] = len(left)
		if is {
			left = append(left, set[at])
		}
	}
	for k := range unset {
		unset[k] = anew[unset[k]]
	}
	for k := range loops {
		loops[k] = anew[loops[k]]
	}
	wantSet(t, trim, left)
	wantUnset(t, trim, unset)
	wantLoops(t, trim, loops)
}

func TestWithoutLoopsItEnds(t *testing.T) {
	without, ended, not := 0, 0, 0
	for salt := range 8000 {
		p := picks(salt)
		c := anyCode(&p, 3+p.below(30), 4)
		loops, _ := valid.Loops(c)
		if len(loops) == 0 {
			without++
		}
		for range 4 {
			ends := walk(c, &p, len(c.L), func(int, []bool) {})
			if len(loops) == 0 && !ends {
				t.Fatalf("%v has no loops, but goes on", start(c))
			}
			if ends {
				ended++
			} else {
				not++
			}
		}
	}
	if without < 1000 || ended < 8000 || not < 2000 {
		t.Errorf("%d without loops, %d ways that end, %d that do not: the codes are not such as they should be", without, ended, not)
	}
}

// R2

// fill writes into all of a list, also behind its end.
func fill[T any](l []T, x T) {
	for k := range l[:cap(l)] {
		l[:cap(l)][k] = x
	}
}

// spoilt is what instructions are written over with.
func spoilt() api.Ins { return api.Ins{Op: 77, A: 77, B: 77, C: 77, N: 77} }

// told is all that is told of code.
type told struct {
	reach        []bool
	set          [][]int
	unset, loops []int
	check        api.Errno
	trim         api.Code
}

// tell asks for all of it.
func tell(c api.Code) told {
	var x told
	x.reach, _ = valid.Reach(c)
	x.set, _ = valid.Set(c)
	x.unset, _ = valid.Unset(c)
	x.loops, _ = valid.Loops(c)
	x.check = valid.Check(c)
	x.trim, _ = valid.Trim(c)
	return x
}

// is tells whether it is what the words say.
func (x told) is(c api.Code) bool {
	return slices.Equal(x.reach, reachOf(c)) && sameLists(x.set, setOf(c)) && slices.Equal(x.unset, unsetOf(c)) && slices.Equal(x.loops, loopsOf(c)) && x.check == checkOf(c) && code.Same(x.trim, trimOf(c))
}

// spoil writes into all of it.
func (x told) spoil() {
	for _, l := range x.set {
		fill(l, 77)
	}
	fill(x.set, []int{77})
	fill(x.reach, len(x.reach)%2 == 0)
	fill(x.unset, 77)
	fill(x.loops, 77)
	fill(x.trim.L, spoilt())
}

func TestNothingHandedInIsChangedOrShared(t *testing.T) {
	for salt := range 2000 {
		p := picks(salt)
		c := anyCode(&p, 30, 8)
		c.L = append(c.L, spoilt(), spoilt(), spoilt())[:len(c.L)]
		was := c
		room := slices.Clone(c.L[:cap(c.L)])
		unchanged := func(what string) {
			t.Helper()
			if !slices.Equal(c.L[:cap(c.L)], room) || c.Regs != was.Regs || c.Arrays != was.Arrays || c.In != was.In {
				t.Fatalf("%s changed what is handed in: %v", what, start(c))
			}
		}
		x := tell(c)
		unchanged("who told of it")
		if !x.is(c) {
			t.Fatalf("%v: told badly", start(c))
		}
		x.spoil()
		unchanged("who wrote to what was told")
		x = tell(c)
		fill(c.L, spoilt())
		own := was
		own.L = room[:len(c.L)]
		if !x.is(own) {
			t.Fatalf("%v: told otherwise, once what was handed in is written to", start(own))
		}
	}
}

func TestNoTwoListsOfAnAnswerShareAny(t *testing.T) {
	for salt := range 500 {
		p := picks(salt)
		c := anyCode(&p, 30, 8)
		set, _ := valid.Set(c)
		seen := map[*int]struct{}{}
		for _, l := range set {
			for k := range l[:cap(l)] {
				seen[&l[:cap(l)][k]] = struct{}{}
			}
		}
		many := 0
		for _, l := range set {
			many += cap(l)
		}
		if len(seen) != many {
			t.Fatalf("Set of %v: its lists share what they have", start(c))
		}
	}
}

func TestNothingIsKept(t *testing.T) {
	a := read(t, "code 3 2 1;set r0 0;len r1 a0;less r0 r1 5;halt;set r2 7;load r2 a0 r0;push a1 r2;add r0 r0 r1;jump 2;move r0 r2;halt")
	b := read(t, "code 2 1 1;jump 2;halt;move r1 r0;store a0 r1 r1;jump 2")
	for range 3 {
		for _, c := range []api.Code{a, b} {
			x := tell(c)
			if !x.is(c) {
				t.Fatalf("%v: told otherwise than ahead", c)
			}
			x.spoil()
		}
		wantNone(t, api.Code{}, api.ErrArg)
	}
}
