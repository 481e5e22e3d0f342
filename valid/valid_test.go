package valid_test

import (
	"math"
	"slices"
	"strings"
	"testing"

	"purfle/api"
	"purfle/code"
	"purfle/valid"
)

// read is the code of a text; lines stand one behind the other, with ; between them.
func read(t *testing.T, s string) api.Code {
	t.Helper()
	c, _, e := code.Parse(strings.ReplaceAll(s, ";", "\n"))
	if e != api.OK {
		t.Fatalf("%s: error %d", s, e)
	}
	return c
}

// start is code without what is behind its first instructions, to be told.
func start(c api.Code) api.Code {
	c.L = c.L[:min(len(c.L), 20)]
	return c
}

// few are a list's first ones, to be told.
func few[T any](l []T) []T { return l[:min(len(l), 20)] }

// sameLists tells whether two lists of lists are the same.
func sameLists(a, b [][]int) bool { return slices.EqualFunc(a, b, slices.Equal[[]int]) }

func wantReach(t *testing.T, c api.Code, want []bool) {
	t.Helper()
	if l, e := valid.Reach(c); !slices.Equal(l, want) || e != api.OK {
		t.Errorf("Reach of %v: got %v, error %d; want %v", start(c), few(l), e, few(want))
	}
}

func wantSet(t *testing.T, c api.Code, want [][]int) {
	t.Helper()
	if l, e := valid.Set(c); !sameLists(l, want) || e != api.OK {
		t.Errorf("Set of %v: got %v, error %d; want %v", start(c), few(l), e, few(want))
	}
}

func wantUnset(t *testing.T, c api.Code, want []int) {
	t.Helper()
	if l, e := valid.Unset(c); !slices.Equal(l, want) || e != api.OK {
		t.Errorf("Unset of %v: got %v, error %d; want %v", start(c), few(l), e, few(want))
	}
}

func wantCheck(t *testing.T, c api.Code, want api.Errno) {
	t.Helper()
	if e := valid.Check(c); e != want {
		t.Errorf("Check of %v: error %d; want %d", start(c), e, want)
	}
}

func wantTrim(t *testing.T, c, want api.Code) {
	t.Helper()
	if got, e := valid.Trim(c); !code.Same(got, want) || e != api.OK {
		t.Errorf("Trim of %v: got %v, error %d; want %v", start(c), start(got), e, start(want))
	}
}

func wantLoops(t *testing.T, c api.Code, want []int) {
	t.Helper()
	if l, e := valid.Loops(c); !slices.Equal(l, want) || e != api.OK {
		t.Errorf("Loops of %v: got %v, error %d; want %v", start(c), few(l), e, few(want))
	}
}

// wantNone wants that nothing is told of code but an error.
func wantNone(t *testing.T, c api.Code, want api.Errno) {
	t.Helper()
	if l, e := valid.Reach(c); len(l) > 0 || e != want {
		t.Errorf("Reach of %v: got %v, error %d; want error %d", start(c), few(l), e, want)
	}
	if l, e := valid.Set(c); len(l) > 0 || e != want {
		t.Errorf("Set of %v: got %v, error %d; want error %d", start(c), few(l), e, want)
	}
	if l, e := valid.Unset(c); len(l) > 0 || e != want {
		t.Errorf("Unset of %v: got %v, error %d; want error %d", start(c), few(l), e, want)
	}
	wantCheck(t, c, want)
	if got, e := valid.Trim(c); !code.Same(got, api.Code{}) || e != want {
		t.Errorf("Trim of %v: got %v, error %d; want error %d", start(c), start(got), e, want)
	}
	if l, e := valid.Loops(c); len(l) > 0 || e != want {
		t.Errorf("Loops of %v: got %v, error %d; want error %d", start(c), few(l), e, want)
	}
}

// wantAll wants of code what the chapter's words say.
func wantAll(t *testing.T, c api.Code) {
	t.Helper()
	wantReach(t, c, reachOf(c))
	wantSet(t, c, setOf(c))
	wantUnset(t, c, unsetOf(c))
	wantCheck(t, c, checkOf(c))
	wantTrim(t, c, trimOf(c))
	wantLoops(t, c, loopsOf(c))
}

// P15.1

func TestExample(t *testing.T) {
	c := read(t, "code 2 0 0;set r0 1;add r0 r0 r1;halt")
	wantUnset(t, c, []int{1})
	wantReach(t, c, []bool{true, true, true})
	wantSet(t, c, [][]int{nil, {0}, {0}})
	wantCheck(t, c, api.ErrName)
	wantTrim(t, c, c)
	wantLoops(t, c, nil)
}

func TestReach(t *testing.T) {
	for s, want := range map[string]string{
		"halt":   "1",
		"jump 0": "1",
		// What is behind a halt, or a jump, unless it is gone on to.
		"halt;halt":                     "10",
		"halt;set r0 1;halt":            "100",
		"jump 1;halt":                   "11",
		"jump 2;set r0 1;halt":          "101",
		"jump 2;halt;jump 1":            "111",
		"jump 3;halt;halt;jump 1":       "1101",
		"set r0 1;halt;jump 0":          "110",
		"set r0 1;set r0 2;jump 0;halt": "1110",
		"jump 0;halt":                   "10",
		"set r0 1;move r1 r0;add r0 r0 r0;sub r0 r0 r0;halt":                  "11111",
		"mul r0 r0 r0;load r0 a0 r0;store a0 r0 r0;len r0 a0;push a0 r0;halt": "111111",
		// Both ways, also where only one can be gone.
		"less r0 r0 3;halt;halt;halt":        "1101",
		"same r0 r0 3;halt;halt;halt":        "1101",
		"less r0 r1 0;halt;halt":             "110",
		"same r0 r1 1;halt;halt":             "110",
		"same r0 r1 3;jump 4;halt;halt;halt": "11011",
		// What is not reached goes on to others, and they to one another.
		"jump 3;set r0 1;jump 4;halt;halt":               "10010",
		"halt;jump 2;jump 1":                             "100",
		"jump 3;less r0 r0 0;jump 1;halt":                "1001",
		"halt;less r0 r0 3;halt;halt":                    "1000",
		"jump 5;jump 6;jump 4;jump 2;jump 1;jump 3;halt": "1111111",
	} {
		bits := make([]bool, len(want))
		for k := range want {
			bits[k] = want[k] == '1'
		}
		c := read(t, "code 2 1 0;"+s)
		wantReach(t, c, bits)
		wantAll(t, c)
	}
}

func TestSet(t *testing.T) {
	for _, x := range []struct {
		s    string
		want [][]int
	}{
		{"halt", [][]int{nil}},
		{"set r2 7;set r0 7;set r1 7;halt", [][]int{nil, {2}, {0, 2}, {0, 1, 2}}},
		{"set r1 7;set r1 8;halt", [][]int{nil, {1}, {1}}},
		// Ahead of what sets it it is not set yet, although that asks for it.
		{"move r0 r0;add r1 r1 r1;halt", [][]int{nil, {0}, {0, 1}}},
		// On one way, on both, on both by one ahead of them, on none.
		{"less r0 r0 2;set r1 7;halt", [][]int{nil, nil, nil}},
		{"less r0 r0 3;set r1 7;jump 4;set r1 8;halt", [][]int{nil, nil, {1}, nil, {1}}},
		{"less r0 r0 3;set r1 7;jump 4;set r2 8;halt", [][]int{nil, nil, {1}, nil, nil}},
		{"set r0 1;less r0 r0 4;set r1 7;jump 5;set r2 8;halt", [][]int{nil, {0}, {0}, {0, 1}, {0}, {0}}},
		{"less r0 r0 4;set r1 7;set r2 7;jump 6;set r2 8;set r0 8;halt", [][]int{nil, nil, {1}, {1, 2}, nil, {2}, {2}}},
		// Around a loop: what is set in it is not at its beginning.
		{"set r0 1;set r1 2;less r1 r0 1;halt", [][]int{nil, {0}, {0, 1}, {0, 1}}},
		{"set r0 1;less r0 r0 4;set r1 2;jump 1;halt", [][]int{nil, {0}, {0}, {0, 1}, {0}}},
		// The first one has nothing ahead on the way of no step.
		{"set r0 1;jump 0", [][]int{nil, {0}}},
		{"set r0 1;set r1 1;same r0 r1 0;halt", [][]int{nil, {0}, {0, 1}, {0, 1}}},
		// A loop that is come to at two places.
		{"less r0 r0 3;set r0 1;set r1 1;set r2 1;less r0 r0 2;halt", [][]int{nil, nil, nil, nil, {2}, {2}}},
		{"set r2 0;less r0 r0 4;set r0 1;set r1 1;set r1 1;less r0 r0 3;halt", [][]int{nil, {2}, {2}, {2}, {2}, {1, 2}, {1, 2}}},
		// What is not reached sets nothing, and takes nothing.
		{"jump 2;set r0 1;halt", [][]int{nil, nil, nil}},
		{"set r0 1;jump 4;set r1 1;jump 4;halt", [][]int{nil, {0}, nil, nil, {0}}},
		{"set r0 1;jump 3;jump 3;set r1 1;halt", [][]int{nil, {0}, nil, {0}, {0, 1}}},
		{"set r0 1;halt;set r1 1;jump 1", [][]int{nil, {0}, nil, nil}},
		// Each one that sets, and each one that does not.
		{"load r0 a0 r1;len r1 a0;mul r2 r0 r0;halt", [][]int{nil, {0}, {0, 1}, {0, 1, 2}}},
		{"sub r2 r0 r0;add r1 r0 r0;move r0 r1;halt", [][]int{nil, {2}, {1, 2}, {0, 1, 2}}},
		{"store a0 r1 r2;push a0 r1;less r0 r1 3;same r1 r2 4;jump 5;halt", [][]int{nil, nil, nil, nil, nil, nil}},
	} {
		c := read(t, "code 3 1 0;"+x.s)
		wantSet(t, c, x.want)
		wantAll(t, c)
	}
}

func TestUnset(t *testing.T) {
	for _, x := range []struct {
		s    string
		want []int
	}{
		{"halt", nil},
		{"move r0 r0;halt", []int{0}},
		// Of the first one it is not set yet, also if there is a way back to it.
		{"add r0 r0 r1;set r1 1;jump 0", []int{0}},
		{"move r1 r0;set r0 1;same r0 r0 0;halt", []int{0}},
		// One that asks for what is not set sets what it sets; each one is told once.
		{"move r0 r0;move r1 r0;halt", []int{0}},
		{"add r2 r0 r1;add r2 r0 r1;add r2 r2 r2;add r2 r2 r1;halt", []int{0, 1, 3}},
		// Rising, whichever way they are come to.
		{"jump 3;push a0 r0;halt;push a0 r1;jump 1", []int{1, 3}},
		{"same r0 r0 4;push a0 r1;push a0 r2;halt;push a0 r2;jump 1", []int{0, 1, 2, 4}},
		// On one way it is set, on the other it is not.
		{"set r0 1;less r0 r0 3;set r1 5;move r0 r1;halt", []int{3}},
		{"set r0 1;less r0 r0 4;set r1 5;jump 5;set r1 6;move r0 r1;halt", nil},
		{"set r0 1;less r0 r0 4;move r2 r0;halt;move r2 r1;halt", []int{4}},
		// In a loop, set at its end.
		{"set r0 1;less r0 r1 4;set r1 1;jump 1;halt", []int{1}},
		{"set r0 1;set r1 9;less r1 r0 6;push a0 r0;add r0 r0 r2;jump 2;halt", []int{4}},
		{"set r0 1;set r1 9;less r1 r0 7;push a0 r0;set r2 1;add r0 r0 r2;jump 2;push a0 r2;halt", []int{7}},
		// What is not reached asks for nothing.
		{"jump 2;move r0 r0;halt", nil},
		{"halt;add r0 r1 r2;push a0 r0;halt", nil},
		{"set r0 1;jump 3;move r1 r2;move r1 r0;halt", nil},
		// These ask for none.
		{"set r0 1;len r1 a0;jump 3;halt", nil},
	} {
		c := read(t, "code 3 1 0;"+x.s)
		wantUnset(t, c, x.want)
		wantAll(t, c)
	}
}

func TestUnsetOfEachInstruction(t *testing.T) {
	// Each of the registers that it asks for, alone not set.
	for _, x := range []struct{ s, asks string }{
		{"set r0 5", ""}, {"move r0 r1", "1"}, {"add r0 r1 r2", "12"}, {"sub r0 r1 r2", "12"}, {"mul r0 r1 r2", "12"}, {"load r0 a1 r2", "2"}, {"store a0 r1 r2", "12"}, {"len r0 a1", ""}, {"push a0 r1", "1"},
		{"jump 3", ""}, {"less r0 r1 2", "01"}, {"same r0 r1 2", "01"}, {"halt", ""},
	} {
		for set := range 8 {
			head, many, want := "", 0, []int(nil)
			for r := range 3 {
				if set>>r&1 == 1 {
					head += "set r" + string(rune('0'+r)) + " 1;"
					many++
				}
			}
			for _, r := range x.asks {
				if set>>(r-'0')&1 == 0 {
					want = []int{many}
				}
			}
			c := read(t, "code 3 2 0;"+head+x.s+";halt;halt;halt;halt")
			wantUnset(t, c, want)
			wantAll(t, c)
			// Where it is not reached it asks for nothing.
			c = read(t, "code 3 2 0;halt;"+x.s+";halt;halt")
			wantUnset(t, c, nil)
		}
	}
}

// P15.2

func TestCheck(t *testing.T) {
	for s, want := range map[string]api.Errno{
		"code 0 0 0;halt":                                           api.OK,
		"code 0 0 0;jump 0":                                         api.OK,
		"code 1 0 0;set r0 1;move r0 r0;halt":                       api.OK,
		"code 1 0 0;move r0 r0;halt":                                api.ErrName,
		"code 1 0 0;jump 2;move r0 r0;halt":                         api.OK,
		"code 2 0 0;set r0 1;same r0 r0 3;set r1 1;move r0 r1;halt": api.ErrName,
		// What is handed in is below In.
		"code 1 1 0;set r0 1;push a0 r0;halt":                api.OK,
		"code 1 1 1;set r0 1;push a0 r0;halt":                api.ErrRange,
		"code 1 1 0;set r0 1;store a0 r0 r0;halt":            api.OK,
		"code 1 1 1;set r0 1;store a0 r0 r0;halt":            api.ErrRange,
		"code 1 3 2;set r0 1;push a0 r0;halt":                api.ErrRange,
		"code 1 3 2;set r0 1;push a1 r0;halt":                api.ErrRange,
		"code 1 3 2;set r0 1;push a2 r0;halt":                api.OK,
		"code 1 3 2;set r0 1;store a1 r0 r0;halt":            api.ErrRange,
		"code 1 3 2;set r0 1;store a2 r0 r0;halt":            api.OK,
		"code 1 128 127;set r0 1;push a126 r0;halt":          api.ErrRange,
		"code 1 128 127;set r0 1;push a127 r0;halt":          api.OK,
		"code 1 128 128;set r0 1;store a127 r0 r0;halt":      api.ErrRange,
		"code 1 3 2;set r0 1;push a2 r0;store a0 r0 r0;halt": api.ErrRange,
		// It may be asked for.
		"code 2 2 2;set r0 1;load r0 a0 r0;len r0 a1;load r1 a1 r0;halt": api.OK,
		// Reached or not, be the register set there or not.
		"code 1 1 1;halt;push a0 r0;halt":                api.ErrRange,
		"code 1 1 1;halt;store a0 r0 r0;halt":            api.ErrRange,
		"code 1 1 1;set r0 1;jump 3;push a0 r0;halt":     api.ErrRange,
		"code 1 2 1;halt;push a1 r0;store a1 r0 r0;halt": api.OK,
		// ErrName is ahead, wherever it stands.
		"code 1 1 1;push a0 r0;halt":                                api.ErrName,
		"code 1 1 1;store a0 r0 r0;halt":                            api.ErrName,
		"code 2 1 1;set r0 1;push a0 r0;move r0 r1;halt":            api.ErrName,
		"code 2 1 1;set r0 1;push a0 r0;jump 4;move r0 r1;halt":     api.ErrRange,
		"code 2 1 1;set r0 1;jump 3;push a0 r0;store a0 r0 r1;halt": api.ErrName,
		// A register, or a place, of the number of an array is none.
		"code 3 4 3;set r0 1;move r1 r0;less r1 r0 0;push a3 r0;halt": api.OK,
	} {
		c := read(t, s)
		wantCheck(t, c, want)
		wantAll(t, c)
	}
}

// P15.3

func TestTrim(t *testing.T) {
	for s, want := range map[string]string{
		"halt":                         "halt",
		"jump 0":                       "jump 0",
		"halt;halt":                    "halt",
		"jump 0;set r0 1;halt":         "jump 0",
		"jump 2;set r0 1;halt":         "jump 1;halt",
		"jump 2;halt;jump 1":           "jump 2;halt;jump 1",
		"jump 3;halt;halt;jump 1":      "jump 2;halt;jump 1",
		"jump 4;halt;halt;halt;jump 0": "jump 1;jump 0",
		"same r0 r1 3;jump 4;halt;push a0 r0;halt":                                 "same r0 r1 2;jump 3;push a0 r0;halt",
		"less r0 r1 4;jump 0;halt;halt;less r1 r0 1;same r0 r1 7;jump 0;halt;halt": "less r0 r1 2;jump 0;less r1 r0 1;same r0 r1 5;jump 0;halt",
		"jump 2;jump 1;set r0 1;jump 5;jump 3;less r0 r0 2;halt;push a0 r0;jump 7": "jump 1;set r0 1;jump 3;less r0 r0 1;halt",
		"set r0 1;halt;set r0 2;jump 1":                                            "set r0 1;halt",
		// Numbers that are no places stay what they are.
		"jump 5;halt;halt;halt;halt;load r2 a2 r2;store a2 r2 r2;add r2 r2 r2;len r2 a2;push a2 r2;set r2 5;less r2 r2 11;halt": "jump 1;load r2 a2 r2;store a2 r2 r2;add r2 r2 r2;len r2 a2;push a2 r2;set r2 5;less r2 r2 7;halt",
		"jump 3;halt;halt;same r2 r2 5;move r2 r2;mul r2 r2 r2;sub r2 r2 r2;jump 3":                                             "jump 1;same r2 r2 3;move r2 r2;mul r2 r2 r2;sub r2 r2 r2;jump 1",
	} {
		for _, head := range []string{"code 3 3 0;", "code 128 128 128;", "code 5 4 2;"} {
			c := read(t, head+s)
			wantTrim(t, c, read(t, head+want))
			wantAll(t, c)
		}
	}
}

func TestLoops(t *testing.T) {
	for _, x := range []struct {
		s    string
		want []int
	}{
		{"halt", nil},
		{"jump 0", []int{0}},
		{"jump 1;jump 1", []int{1}},
		{"jump 1;jump 0", []int{1}},
		{"jump 1;halt", nil},
		{"jump 2;halt;jump 1", []int{2}},
		{"less r0 r0 1;same r0 r0 2;halt", nil},
		{"less r0 r0 0;halt", []int{0}},
		{"same r0 r0 0;halt", []int{0}},
		{"set r0 1;less r0 r0 0;same r0 r0 2;same r0 r0 4;halt", []int{1, 2}},
		{"set r0 1;less r0 r0 3;jump 0;halt", []int{2}},
		// Of what is not reached none.
		{"halt;jump 0", nil},
		{"halt;jump 1", nil},
		{"jump 2;jump 0;halt;less r0 r0 0;jump 3", nil},
		{"jump 2;jump 2;jump 1", []int{2}},
		// Rising, whichever way they are come to.
		{"jump 5;less r0 r0 1;jump 0;halt;jump 4;jump 7;jump 6;same r0 r0 1;less r0 r0 4;jump 9", []int{1, 2, 4, 7, 8, 9}},
		// Back, but around nothing.
		{"jump 3;set r0 1;halt;jump 1", []int{3}},
	} {
		c := read(t, "code 1 0 0;"+x.s)
		wantLoops(t, c, x.want)
		wantAll(t, c)
	}
}

// Of code that may not be.

func TestCodeThatMayNotBe(t *testing.T) {
	halt, jump := api.Ins{}, api.Ins{Op: api.JumpI}
	for _, c := range []api.Code{
		{}, {Regs: 1, Arrays: 1, In: 1}, {L: []api.Ins{}}, {Regs: -1, L: []api.Ins{halt}}, {Regs: 129, L: []api.Ins{halt}}, {Regs: math.MaxInt, L: []api.Ins{halt}}, {Regs: math.MinInt, L: []api.Ins{halt}},
		{Arrays: -1, L: []api.Ins{halt}}, {Arrays: 129, L: []api.Ins{halt}}, {In: 1, L: []api.Ins{halt}}, {In: -1, L: []api.Ins{halt}}, {Arrays: 2, In: 3, L: []api.Ins{halt}},
		{L: make([]api.Ins, 4097)}, {L: make([]api.Ins, 70000)},
		// The last one, a register, an array, a place, a number, an Op, one that is not named.
		{Regs: 1, L: []api.Ins{{Op: api.SetI}}}, {Regs: 1, L: []api.Ins{halt, {Op: api.LessI}}}, {Regs: 1, L: []api.Ins{halt, {Op: api.SameI}}},
		{L: []api.Ins{{Op: api.SetI}, halt}}, {Regs: 2, L: []api.Ins{{Op: api.MoveI, A: 1, B: 2}, halt}}, {Regs: 2, L: []api.Ins{{Op: api.AddI, C: 128}, halt}}, {Regs: 2, L: []api.Ins{{Op: api.SetI, A: -1}, halt}}, {Regs: 2, L: []api.Ins{{Op: api.LessI, A: math.MaxInt}, halt}},
		{Regs: 1, Arrays: 1, L: []api.Ins{{Op: api.PushI, A: 1}, halt}}, {Regs: 1, Arrays: 1, In: 1, L: []api.Ins{{Op: api.PushI, A: -1}, halt}}, {Regs: 1, Arrays: 1, In: 1, L: []api.Ins{{Op: api.StoreI, A: math.MinInt}, halt}},
		{L: []api.Ins{{Op: api.JumpI, A: 1}}}, {L: []api.Ins{{Op: api.JumpI, A: -1}}}, {L: []api.Ins{{Op: api.JumpI, A: math.MaxInt}}}, {Regs: 1, L: []api.Ins{{Op: api.LessI, C: 2}, halt}}, {Regs: 1, L: []api.Ins{{Op: api.SameI, C: -1}, jump}},
		{Regs: 1, L: []api.Ins{{Op: api.SetI, N: api.MaxN}, halt}}, {Regs: 1, L: []api.Ins{{Op: api.SetI, N: -api.MaxN}, halt}},
		{L: []api.Ins{{Op: 13}, halt}}, {L: []api.Ins{{Op: -1}, halt}}, {L: []api.Ins{{Op: math.MinInt}}}, {L: []api.Ins{halt, {Op: 13}, halt}},
		{L: []api.Ins{{N: 1}}}, {Regs: 1, L: []api.Ins{{Op: api.SetI, C: 1}, halt}}, {L: []api.Ins{{Op: api.JumpI, C: 1}, halt}},
		// Ahead of ErrName and ErrRange, also where it is not reached.
		{Regs: 1, L: []api.Ins{{Op: api.MoveI}, halt, {Op: 13}, halt}}, {Regs: 1, Arrays: 1, In: 1, L: []api.Ins{{Op: api.PushI}, {Op: 13}, halt}}, {Regs: 1, Arrays: 1, In: 1, L: []api.Ins{halt, {Op: api.PushI}, jump, {Op: api.SetI}}},
	} {
		wantNone(t, c, api.ErrArg)
	}
}

func TestCodeThatMayBeIsNotCheckedAheadOfBeingTold(t *testing.T) {
	// Code that asks for what is not set, and writes what it may not, has all the others.
	c := read(t, "code 2 1 1;push a0 r1;jump 3;halt;same r0 r1 0;halt")
	wantCheck(t, c, api.ErrName)
	wantReach(t, c, []bool{true, true, false, true, true})
	wantSet(t, c, make([][]int, 5))
	wantUnset(t, c, []int{0, 3})
	wantTrim(t, c, read(t, "code 2 1 1;push a0 r1;jump 2;same r0 r1 0;halt"))
	wantLoops(t, c, []int{3})
}

// At the bounds.

// long is code of as many instructions, and registers, as may be: it sets them all, and does something again and again, till it ends.
func long(again func(at int) api.Ins) api.Code {
	c := api.Code{Regs: 128, Arrays: 128, In: 127, L: make([]api.Ins, 4096)}
	for at := range 4095 {
		if c.L[at] = again(at); at < 128 {
			c.L[at] = api.Ins{Op: api.SetI, A: at}
		}
	}
	return c
}

// rising are the numbers from 0 on.
func rising(many int) []int {
	var l []int
	for k := range many {
		l = append(l, k)
	}
	return l
}

func TestAsMuchAsMayBe(t *testing.T) {
	c := long(func(at int) api.Ins { return api.Ins{Op: api.AddI, A: at % 128, B: (at + 1) % 128, C: 127 - at%128} })
	reached, set := make([]bool, 4096), make([][]int, 4096)
	for at := range 4096 {
		reached[at], set[at] = true, rising(min(at, 128))
	}
	wantReach(t, c, reached)
	wantSet(t, c, set)
	wantUnset(t, c, nil)
	wantCheck(t, c, api.OK)
	wantTrim(t, c, c)
	wantLoops(t, c, nil)
	// Of the last register, at the last place.
	c.L[127], c.L[4094] = api.Ins{Op: api.SetI}, api.Ins{Op: api.PushI, A: 127, B: 127}
	for at := 128; at < 4094; at++ {
		c.L[at] = api.Ins{Op: api.MoveI, A: at % 127, B: (at + 1) % 127}
	}
	wantUnset(t, c, []int{4094})
	wantCheck(t, c, api.ErrName)
	c.L[127] = api.Ins{Op: api.SetI, A: 127}
	wantCheck(t, c, api.OK)
	c.L[4094].A = 126
	wantCheck(t, c, api.ErrRange)
}

func TestLongWaysBack(t *testing.T) {
	// From behind, one by one; the first one goes to the last.
	c := api.Code{L: make([]api.Ins, 4096)}
	c.L[0] = api.Ins{Op: api.JumpI, A: 4095}
	for at := 2; at < 4096; at++ {
		c.L[at] = api.Ins{Op: api.JumpI, A: at - 1}
	}
	wantReach(t, c, slices.Repeat([]bool{true}, 4096))
	wantTrim(t, c, c)
	wantLoops(t, c, rising(4096)[2:])
	// All may go back to the first, each sets another.
	c = long(func(at int) api.Ins { return api.Ins{Op: api.LessI, A: at % 128, B: 5} })
	wantLoops(t, c, rising(4095)[128:])
	wantCheck(t, c, api.OK)
	// None is reached but the last.
	c = api.Code{L: make([]api.Ins, 4096)}
	c.L[0] = api.Ins{Op: api.JumpI, A: 4095}
	wantTrim(t, c, api.Code{L: []api.Ins{{Op: api.JumpI, A: 1}, {}}})
}

func TestWhatIsSetGetsLessOneByOne(t *testing.T) {
	// There are 128 ways, on each of which one register more is not set.
	c := api.Code{Regs: 128, L: make([]api.Ins, 4096)}
	for k := range 128 {
		c.L[k] = api.Ins{Op: api.SameI, C: 129 + k}
		c.L[129+k] = api.Ins{Op: api.SetI, A: k}
	}
	c.L[128] = api.Ins{Op: api.JumpI, A: 256}
	for at := 257; at < 4095; at++ {
		c.L[at] = api.Ins{Op: api.LessI, A: at % 128, B: 127, C: at + 1}
	}
	set := make([][]int, 4096)
	for at := 257; at < 4096; at++ {
		set[at] = []int{127}
	}
	wantSet(t, c, set)
	// The last one is not set either, once its instruction goes around a loop instead.
	c.L[4094] = api.Ins{Op: api.LessI, C: 258}
	c.L[256] = api.Ins{Op: api.JumpI, A: 258}
	wantSet(t, c, make([][]int, 4096))
}
