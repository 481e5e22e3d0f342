package code_test

import (
	"math"
	"slices"
	"strings"
	"testing"

	"purfle/api"
	"purfle/code"
)

// picks are numbers that look like no order.
type picks uint64

// below is the next one, from 0 on.
func (p *picks) below(n int) int {
	*p = *p*6364136223846793005 + 1442695040888963407
	return int(*p>>33) % n
}

// number is one of any size.
func (p *picks) number() int64 {
	n := int64(*p) % 1000000000000000000 >> p.below(60)
	p.below(1)
	return n
}

// anyCode is some that may be, of at most so many instructions.
func anyCode(p *picks, most int) api.Code {
	c := api.Code{Regs: 1 + p.below(128), Arrays: 1 + p.below(128), L: make([]api.Ins, 1+p.below(most))}
	c.In = p.below(c.Arrays + 1)
	for k := range c.L {
		x := api.Ins{Op: p.below(13)}
		if k == len(c.L)-1 {
			x.Op = []int{api.HaltI, api.JumpI}[p.below(2)]
		}
		for _, letter := range []string{"A", "B", "C"} {
			if ahead, is := standsFor(insTexts()[x.Op], letter); is {
				x = with(x, letter, p.below(map[string]int{"r": c.Regs, "a": c.Arrays, "": len(c.L)}[ahead]))
			}
		}
		if x.Op == api.SetI {
			x.N = p.number()
		}
		c.L[k] = x
	}
	return c
}

// spoilt is code with something in it, perhaps, that may not be.
func spoilt(c api.Code, p *picks) api.Code {
	few := []int{-1, 0, 1, c.Regs, c.Arrays, len(c.L), len(c.L) - 1, 127, 128, 129, 4096, math.MaxInt, math.MinInt}
	n := few[p.below(len(few))]
	x := &c.L[p.below(len(c.L))]
	switch p.below(9) {
	case 0:
		c.Regs = n
	case 1:
		c.Arrays = n
	case 2:
		c.In = n
	case 3:
		x.Op = p.below(16) - 1
	case 4:
		x.A = n
	case 5:
		x.B = n
	case 6:
		x.C = n
	case 7:
		x.N = int64(n)
	default:
		c.L = c.L[:p.below(len(c.L))]
	}
	return c
}

func TestManyCodes(t *testing.T) {
	seen := map[api.Errno]int{}
	for salt := range 10000 {
		p := picks(salt)
		c := anyCode(&p, 40)
		if p.below(2) == 0 {
			c = spoilt(c, &p)
		}
		want, e := textOf(c)
		wantMay(t, c, e != api.ErrArg)
		wantText(t, c, want, e)
		by := p.below(50)
		shifted, f := shiftOf(c, by)
		wantShift(t, c, by, shifted, f)
		wantSame(t, c, shifted, sameCode(c, shifted))
		seen[e]++
	}
	if seen[api.OK] < 5000 || seen[api.ErrArg] < 1500 {
		t.Errorf("%v: the codes are not such as they should be", seen)
	}
}

// mutant is a text with a token left out, put in, or changed.
func mutant(s string, p *picks) string {
	tokens := strings.Fields(strings.ReplaceAll(s, "\n", " ; "))
	others := strings.Fields("halt set move add sub mul load store len push jump less same code r0 r1 r127 r128 a0 a1 0 1 128 999999999999999999 - + ; ? 01 r01 x")
	k, other := p.below(len(tokens)), others[p.below(len(others))]
	switch p.below(4) {
	case 0:
		tokens = slices.Delete(tokens, k, k+1)
	case 1:
		tokens = slices.Insert(tokens, k, other)
	case 2:
		tokens[k] = other
	default:
		m := p.below(len(tokens))
		tokens[k], tokens[m] = tokens[m], tokens[k]
	}
	return strings.ReplaceAll(strings.Join(tokens, " "), ";", "\n")
}

func TestParseOfMutants(t *testing.T) {
	seen := map[api.Errno]int{}
	for salt := range 20000 {
		p := picks(salt)
		s, _ := textOf(anyCode(&p, 12))
		s = mutant(s, &p)
		want, at, e := parseOf(s)
		wantParse(t, s, want, at, e)
		seen[e]++
	}
	if seen[api.OK] < 500 || seen[api.ErrArg] < 200 || seen[api.ErrText] < 5000 {
		t.Errorf("%v: the texts are not such as they should be", seen)
	}
}

// P14.4

func TestWhatWasWrittenIsReadAsWhatItWas(t *testing.T) {
	large := 0
	for salt := range 2000 {
		p := picks(salt)
		c := anyCode(&p, 20+980*p.below(2))
		s, e := code.Text(c)
		if e == api.ErrLarge {
			large++
			continue
		}
		got, n, f := code.Parse(s)
		if e != api.OK || f != api.OK || n != 1+len(c.L) || !sameCode(got, c) || !code.Same(got, c) {
			t.Errorf("Text and Parse of %v: got %v, %d, errors %d, %d", start(c), start(got), n, e, f)
		}
		if again, _ := code.Text(got); again != s {
			t.Errorf("Text, Parse and Text of %v: got %q; want %q", start(c), short(again), short(s))
		}
	}
	if large == 0 || large > 500 {
		t.Errorf("%d of 2000 are too large", large)
	}
}

func TestShiftedTwiceIsShiftedByBoth(t *testing.T) {
	for salt := range 3000 {
		p := picks(salt)
		c := anyCode(&p, 60)
		a, b := p.below(100), p.below(100)
		once, _ := code.Shift(c, a)
		twice, e := code.Shift(once, b)
		both, f := code.Shift(c, a+b)
		if e != api.OK || f != api.OK || !code.Same(twice, both) || !sameCode(twice, both) {
			t.Errorf("Shift of %v by %d and %d: got %v, error %d; want %v, error %d", start(c), a, b, start(twice), e, start(both), f)
		}
		if len(twice.L) == len(c.L) && !code.Same(twice, c) {
			t.Errorf("Shift of %v by 0: got %v", start(c), start(twice))
		}
	}
	// As long as there is room.
	for _, x := range []struct{ many, a, b int }{{1, 4094, 1}, {1, 0, 4095}, {1, 4095, 1}, {96, 2000, 2000}, {97, 2000, 2000}, {4096, 0, 0}, {4096, 0, 1}} {
		once, e := code.Shift(halts(x.many), x.a)
		twice, f := code.Shift(once, x.b)
		both, g := code.Shift(halts(x.many), x.a+x.b)
		if e != api.OK || f != g || !code.Same(twice, both) {
			t.Errorf("%v: got %d instructions, error %d; want %d, error %d", x, len(twice.L), f, len(both.L), g)
		}
	}
}

func TestShiftedGoesOnAsItDid(t *testing.T) {
	for salt := range 2000 {
		p := picks(salt)
		c, by := anyCode(&p, 40), p.below(60)
		s, _ := code.Shift(c, by)
		if code.Check(s) != api.OK {
			t.Fatalf("Shift of %v by %d: it may not be", start(c), by)
		}
		for at, x := range s.L {
			want := []int{at + 1}
			if at >= by {
				want = code.Next(c.L[at-by], at-by)
				for k := range want {
					want[k] += by
				}
			}
			if next := code.Next(x, at); !slices.Equal(next, want) {
				t.Fatalf("Shift of %v by %d: at %d it goes on to %v; want %v", start(c), by, at, next, want)
			}
		}
	}
}

// R2

func TestNothingHandedInIsChangedOrShared(t *testing.T) {
	for salt := range 1000 {
		p := picks(salt)
		c := anyCode(&p, 30)
		behind := api.Ins{Op: 99, A: 98, N: 97}
		c.L = append(c.L, behind, behind, behind)[:len(c.L)]
		was := slices.Clone(c.L[:cap(c.L)])
		regs, arrays, in := c.Regs, c.Arrays, c.In
		unchanged := func(what string) {
			t.Helper()
			if !slices.Equal(c.L[:cap(c.L)], was) || c.Regs != regs || c.Arrays != arrays || c.In != in {
				t.Fatalf("%s changed what it was handed: %v", what, start(c))
			}
		}
		code.Check(c)
		unchanged("Check")
		code.Text(c)
		unchanged("Text")
		code.Same(c, c)
		unchanged("Same")
		for _, by := range []int{0, 1, 7} {
			s, _ := code.Shift(c, by)
			unchanged("Shift")
			want, _ := shiftOf(c, by)
			fill(s.L)
			unchanged("who wrote to what Shift answered")
			s, _ = code.Shift(c, by)
			fill(c.L)
			if !sameCode(s, want) {
				t.Fatalf("Shift by %d: got %v, once what was handed in is written to; want %v", by, start(s), start(want))
			}
			copy(c.L[:cap(c.L)], was)
		}
	}
}

// fill writes into all of a list, also behind its end.
func fill(l []api.Ins) {
	for k := range l[:cap(l)] {
		l[:cap(l)][k] = api.Ins{Op: 77, A: 77, B: 77, C: 77, N: 77}
	}
}

func TestNothingIsKept(t *testing.T) {
	for range 3 {
		c, _, _ := code.Parse(exampleText)
		if !sameCode(c, example()) {
			t.Fatalf("got %v", c)
		}
		fill(c.L)
		wantText(t, example(), exampleText, api.OK)
	}
	for op := range 13 {
		x := api.Ins{Op: op, A: 1, B: 2, C: 3}
		for range 3 {
			for _, l := range [][]int{code.Reads(x), code.Next(x, 8)} {
				for k := range l[:cap(l)] {
					l[:cap(l)][k] = 77
				}
			}
			n, is := writesOf(x)
			wantIns(t, x, 8, readsOf(x), n, is, nextOf(x, 8))
		}
	}
}
