package code_test

import (
	"strings"
	"testing"

	"purfle/api"
	"purfle/code"
)

// exampleText is the text of example.
const exampleText = "code 4 3 2\nset r3 - 7\nmove r2 r3\nadd r1 r2 r3\nsub r3 r1 r2\nmul r2 r3 r1\nload r3 a1 r2\nstore a2 r3 r1\nlen r3 a2\npush a2 r3\nless r1 r2 11\nsame r3 r1 12\njump 9\nhalt"

// short is what a text begins with.
func short(s string) string { return s[:min(len(s), 300)] }

func wantText(t *testing.T, c api.Code, want string, f api.Errno) {
	t.Helper()
	if s, e := code.Text(c); s != want || e != f {
		t.Errorf("Text of %v: got %q, error %d; want %q, error %d", start(c), short(s), e, short(want), f)
	}
}

func wantParse(t *testing.T, s string, want api.Code, at int, f api.Errno) {
	t.Helper()
	if c, n, e := code.Parse(s); !sameCode(c, want) || n != at || e != f {
		t.Errorf("Parse of %q: got %v, %d, error %d; want %v, %d, error %d", short(s), start(c), n, e, start(want), at, f)
	}
}

// wantFault wants that a text is none.
func wantFault(t *testing.T, s string, at int, e api.Errno) {
	t.Helper()
	wantParse(t, s, api.Code{}, at, e)
}

// P14.2

func TestText(t *testing.T) {
	wantText(t, example(), exampleText, api.OK)
	wantText(t, halts(1), "code 0 0 0\nhalt", api.OK)
	wantText(t, api.Code{Regs: 1, L: []api.Ins{{}}}, "code 1 0 0\nhalt", api.OK)
	wantText(t, api.Code{Regs: 128, Arrays: 128, In: 128, L: []api.Ins{{Op: api.LoadI, A: 127, B: 127, C: 127}, {Op: api.JumpI}}}, "code 128 128 128\nload r127 a127 r127\njump 0", api.OK)
	for n, want := range map[int64]string{0: "0", 1: "1", -1: "- 1", 10: "10", -10: "- 10", 999999999999999999: "999999999999999999", -999999999999999999: "- 999999999999999999", 1 << 40: "1099511627776"} {
		wantText(t, api.Code{Regs: 1, L: []api.Ins{{Op: api.SetI, N: n}, {}}}, "code 1 0 0\nset r0 "+want+"\nhalt", api.OK)
	}
}

func TestTextErrors(t *testing.T) {
	for _, c := range []api.Code{
		{}, {Regs: 1}, {Regs: 129, L: make([]api.Ins, 1)}, {Regs: -1, L: make([]api.Ins, 1)}, {Arrays: 1, In: 2, L: make([]api.Ins, 1)}, {In: -1, L: make([]api.Ins, 1)},
		room(api.Ins{Op: 13}), room(api.Ins{Op: -1}), room(api.Ins{N: 1}), room(api.Ins{Op: api.JumpI, A: 5}), room(api.Ins{Op: api.SetI, N: 1000000000000000000}), {Regs: 1, L: []api.Ins{{Op: api.SetI}}},
		// Ahead of its being too much.
		halts(4097), halts(70000), {Regs: 129, L: make([]api.Ins, 4096)}, {L: append(make([]api.Ins, 4000), api.Ins{Op: 13})},
	} {
		wantText(t, c, "", api.ErrArg)
	}
}

func TestTextOfMany(t *testing.T) {
	// A line, a word, perhaps a number: 4 tokens, and 2 or 3 for each.
	wantText(t, halts(2046), "code 0 0 0"+strings.Repeat("\nhalt", 2046), api.OK)
	wantText(t, halts(2047), "", api.ErrLarge)
	wantText(t, halts(4096), "", api.ErrLarge)
	c := halts(2046)
	c.L[7] = api.Ins{Op: api.JumpI, A: 1}
	wantText(t, c, "", api.ErrLarge)
	c.L = c.L[:2045]
	wantText(t, c, "code 0 0 0"+strings.Repeat("\nhalt", 7)+"\njump 1"+strings.Repeat("\nhalt", 2037), api.OK)
	// A sign is one, too.
	c = halts(2045)
	c.Regs, c.L[7] = 1, api.Ins{Op: api.SetI, N: 5}
	wantText(t, c, "code 1 0 0"+strings.Repeat("\nhalt", 7)+"\nset r0 5"+strings.Repeat("\nhalt", 2037), api.OK)
	c.L[7].N = -5
	wantText(t, c, "", api.ErrLarge)
	for _, n := range []int64{0, -1, 999999999999999999, -999999999999999999} {
		for many := 1; many < 1200; many += 37 {
			c := halts(many)
			c.Regs = 128
			for k := range many - 1 {
				c.L[k] = api.Ins{Op: api.SetI, A: 127, N: n}
			}
			want, e := textOf(c)
			wantText(t, c, want, e)
		}
	}
}

func TestParse(t *testing.T) {
	wantParse(t, exampleText, example(), 14, api.OK)
	wantParse(t, "code 0 0 0\nhalt", halts(1), 2, api.OK)
	wantParse(t, "code 128 128 128\nload r127 a127 r127\njump 0", api.Code{Regs: 128, Arrays: 128, In: 128, L: []api.Ins{{Op: api.LoadI, A: 127, B: 127, C: 127}, {Op: api.JumpI}}}, 3, api.OK)
	for s, n := range map[string]int64{"0": 0, "1": 1, "- 1": -1, "-1": -1, "10": 10, "-\t10": -10, "999999999999999999": 999999999999999999, "- 999999999999999999": -999999999999999999} {
		wantParse(t, "code 1 0 0\nset r0 "+s+"\nhalt", api.Code{Regs: 1, L: []api.Ins{{Op: api.SetI, N: n}, {}}}, 3, api.OK)
	}
	// What is passed over changes nothing.
	wantParse(t, "\n\n # all\n\tcode  1\t0 0# of it\n\n\n halt\n#\nhalt\n", api.Code{Regs: 1, L: make([]api.Ins, 2)}, 3, api.OK)
	wantParse(t, strings.ReplaceAll("# none\n"+exampleText, "\n", "#\n\n \t"), example(), 14, api.OK)
}

func TestParseOfNone(t *testing.T) {
	for _, s := range []string{"", " ", "\n", "\t\n\n", "# no", "# code 1 0 0\n# halt\n"} {
		wantFault(t, s, 0, api.ErrText)
	}
}

func TestParseOfTheFirstLine(t *testing.T) {
	for _, s := range []string{
		"code", "code 1", "code 1 0", "code 1 0 0 0", "code 1 0 0 halt", "code r1 0 0", "code 1 a0 0", "code a b c", "code - 1 0 0", "code 1 - 1 0", "code 1 0 - 1", "code - 0 0 0", "code 1 , 0 , 0", "code : 1 0 0", "code + 1 0 0",
		"codes 1 0 0", "Code 1 0 0", "CODE 1 0 0", "code1 0 0", "1 0 0", "0 code 0 0", "halt", "set r0 1", "jump 0", "1", "=", "code code 1 0 0", "r0", "c 1 0 0", "code\n1 0 0", "code 1 0\n0",
	} {
		wantFault(t, s, 0, api.ErrText)
		wantFault(t, s+"\nhalt", 0, api.ErrText)
		wantFault(t, s+"\ncode 1 0 0\nhalt", 0, api.ErrText)
	}
}

// badLines are such as are no instruction's.
func badLines() []string {
	return []string{
		"halt r0", "halt 0", "halt halt", "halts", "Halt", "HALT", "hal", "h", "0", "1", "r0", "a0", "=", "-", "code", "code 1 1 1", "stop", "div r0 r0 r0", "add3 r0 r0 r0", "- halt", "( halt )",
		"set", "set r0", "set 1", "set r0 r0", "set r0 a0", "set a0 1", "set 0 1", "set r0 1 1", "set r0 1 r0", "set r0 -", "set r0 - 0", "set r0 - - 1", "set r0 + 1", "set r0 1 -", "set - 1 r0", "set r0 - r0", "set r 1", "set R0 1", "set r00 1", "set r01 1",
		"set r0r0 1", "set r0a 1", "set rA 1", "set rr0 1", "set r - 1", "set r 0 1", "set ra0 1", "set x0 1", "set r0 n", "set r0 ( 1 )", "set r0 = 1", "set r0 , 1", "set - r0 1", "set r0 0 0",
		"move", "move r0", "move r0 r0 r0", "move r0 a0", "move a0 r0", "move r0 1", "move 1 r0", "move r0 , r0", "move r0 - r0", "move r0 r00",
		"add r0 r0", "add r0 r0 r0 r0", "add r0 r0 1", "add r0 1 r0", "add a0 r0 r0", "add r0 a0 r0", "add r0 r0 a0", "add", "add r0", "sub r0 r0", "sub r0 r0 a0", "sub r0 r0 1", "mul r0 r0", "mul r0 a0 r0", "mul r0 r0 r0 0",
		"load r0 r0 r0", "load a0 a0 r0", "load r0 a0 a0", "load r0 a0", "load r0 a0 0", "load r0 0 r0", "load r0 a0 r0 r0", "load r0 a00 r0", "load r0 A0 r0",
		"store a0 r0", "store r0 r0 r0", "store a0 a0 r0", "store a0 r0 a0", "store a0 0 r0", "store a0 r0 0", "store 0 r0 r0", "store a0 r0 r0 r0",
		"len r0", "len r0 r0", "len a0 a0", "len a0 r0", "len r0 0", "len r0 a0 r0", "len r0 a0 0", "len",
		"push a0", "push r0 r0", "push r0 a0", "push a0 a0", "push a0 0", "push 0 r0", "push a0 r0 r0", "push a0 r0 0", "push a01 r0",
		"jump", "jump r0", "jump a0", "jump - 1", "jump - 0", "jump 0 0", "jump + 0", "jump halt", "jump 0 r0", "jump A",
		"less r0 r0", "less r0 r0 r0", "less r0 r0 a0", "less r0 0 0", "less 0 r0 0", "less a0 r0 0", "less r0 a0 0", "less r0 r0 - 1", "less r0 r0 0 0", "less r0 r0 - 0", "less", "less r0 0",
		"same r0 r0", "same r0 r0 r0", "same r0 r0 a0", "same r0 0 0", "same 0 r0 0", "same r0 r0 - 1", "same r0 r0 0 0", "same", "same r0 0", "less same r0 r0 0",
	}
}

func TestParseOfLinesThatAreNone(t *testing.T) {
	for _, s := range badLines() {
		wantFault(t, "code 1 1 1\n"+s, 1, api.ErrText)
		wantFault(t, "code 1 1 1\n"+s+"\nhalt", 1, api.ErrText)
		wantFault(t, "code 1 1 1\nhalt\n\n# no\nset r0 1\n\t"+s+"\nhalt r0", 3, api.ErrText)
		// Ahead of what may not be.
		wantFault(t, "code 1000 1 5\nset r9 0\n"+s, 2, api.ErrText)
	}
}

func TestParseOfCodeThatMayNotBe(t *testing.T) {
	for _, s := range []string{
		"code 1 0 0", "code 0 0 0", "code 129 0 0\nhalt", "code 0 129 0\nhalt", "code 0 0 1\nhalt", "code 1 1 2\nhalt", "code 128 128 129\nhalt", "code 999999999999999999 0 0\nhalt", "code 0 999999999999999999 0\nhalt", "code 0 0 999999999999999999\nhalt",
		"code 1 0 0\nset r0 3", "code 1 0 0\nset r1 3\nhalt", "code 0 0 0\nset r0 3\nhalt", "code 128 0 0\nset r128 0\nhalt", "code 128 0 0\nset r999999999999999 0\nhalt",
		"code 1 0 0\nlen r0 a0\nhalt", "code 1 1 0\nlen r0 a1\nhalt", "code 1 128 0\npush a128 r0\nhalt", "code 1 128 0\npush a999999999999999 r0\nhalt",
		"code 1 0 0\njump 1", "code 1 0 0\njump 2\nhalt", "code 1 0 0\njump 999999999999999999", "code 1 0 0\nless r0 r0 2\nhalt", "code 1 0 0\nsame r0 r0 2\nhalt", "code 1 0 0\nsame r0 r0 0", "code 1 1 0\npush a0 r0", "code 1 1 0\nhalt\nlen r0 a0",
	} {
		wantFault(t, s, 0, api.ErrArg)
	}
}

func TestParseOfWhatIsNotCut(t *testing.T) {
	wantFault(t, "?", 0, api.ErrText)
	wantFault(t, "code 1 0 0\nhalt\n?", 16, api.ErrText)
	wantFault(t, "code 1 0 0\nhalt 01", 16, api.ErrText)
	wantFault(t, "code 1 0 0\nset r0 1000000000000000000\nhalt", 18, api.ErrText)
	wantFault(t, "code 1 0 0\nset r1234567890123456 0\nhalt", 15, api.ErrText)
	wantFault(t, "code 1 0 0\r\nhalt", 10, api.ErrText)
	// Ahead of a line that is none.
	wantFault(t, "halt\n\nhalt 1 .", 13, api.ErrText)
	wantFault(t, "code 1 0 0\nset r1\nhalt\n;", 23, api.ErrText)
	wantFault(t, strings.Repeat(" ", 65537), 0, api.ErrLarge)
	wantFault(t, "?"+strings.Repeat(" ", 65536), 0, api.ErrLarge)
	wantFault(t, exampleText+strings.Repeat("\n", 65537), 0, api.ErrLarge)
	wantParse(t, exampleText+strings.Repeat("\n", 65536-len(exampleText)), example(), 14, api.OK)
	wantParse(t, "code 0 0 0"+strings.Repeat("\nhalt", 2046), halts(2046), 2047, api.OK)
	wantFault(t, "code 0 0 0"+strings.Repeat("\nhalt", 2047), 0, api.ErrLarge)
	wantFault(t, strings.Repeat("halt\n", 2049), 0, api.ErrLarge)
}

// texts calls f with all texts of so many of the tokens told, a blank between two.
func texts(tokens string, many int, f func(s string)) {
	from := strings.Split(tokens, " ")
	l := make([]string, many)
	var further func(k int)
	further = func(k int) {
		if k == many {
			f(strings.Join(l, " "))
			return
		}
		for _, s := range from {
			l[k] = s
			further(k + 1)
		}
	}
	further(0)
}

func TestParseOfAllShortLines(t *testing.T) {
	seen := map[api.Errno]int{}
	for _, word := range []string{"halt", "set", "move", "add", "sub", "mul", "load", "store", "len", "push", "jump", "less", "same", "code", "r0", ""} {
		for many := range 5 {
			texts("r0 r1 a0 a1 0 1 - \n", many, func(s string) {
				s = "code 2 1 1\nhalt\n" + word + " " + s + "\nhalt"
				want, at, e := parseOf(s)
				wantParse(t, s, want, at, e)
				seen[e]++
			})
		}
	}
	for many := range 6 {
		texts("code 0 1 - \n halt r0", many, func(s string) {
			want, at, e := parseOf(s)
			wantParse(t, s, want, at, e)
			seen[e]++
		})
	}
	if seen[api.OK] < 100 || seen[api.ErrArg] < 40 || seen[api.ErrText] < 50000 {
		t.Errorf("%v: the texts are not such as they should be", seen)
	}
}
