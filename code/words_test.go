package code_test

import (
	"regexp"
	"slices"
	"strconv"
	"strings"

	"purfle/api"
	"purfle/lexer"
)

// What the chapter's words say, told another way than the program does: instructions go by their texts as the chapter writes them, which are filled in, and made patterns of.

// insTexts are the instructions' texts, by Op.
func insTexts() []string {
	return []string{
		"halt", "set rA N", "move rA rB", "add rA rB rC", "sub rA rB rC", "mul rA rB rC", "load rA aB rC", "store aA rB rC", "len rA aB", "push aA rB", "jump A", "less rA rB C", "same rA rB C",
	}
}

// fieldsOf are an instruction's numbers by their letters.
func fieldsOf(x api.Ins) map[string]int64 {
	return map[string]int64{"A": int64(x.A), "B": int64(x.B), "C": int64(x.C), "N": x.N}
}

// standsFor is what a letter stands for in a text: r, a, or of its own; or nothing at all.
func standsFor(text, letter string) (string, bool) {
	for _, w := range strings.Fields(text)[1:] {
		if ahead, is := strings.CutSuffix(w, letter); is {
			return ahead, true
		}
	}
	return "", false
}

// mayIns tells whether an instruction may be in code.
func mayIns(x api.Ins, c api.Code) bool {
	if x.Op < 0 || x.Op > 12 {
		return false
	}
	for letter, n := range fieldsOf(x) {
		least, below := int64(0), int64(1)
		if ahead, is := standsFor(insTexts()[x.Op], letter); is {
			switch {
			case letter == "N":
				least, below = -999999999999999999, 1000000000000000000
			case ahead == "r":
				below = int64(c.Regs)
			case ahead == "a":
				below = int64(c.Arrays)
			default:
				below = int64(len(c.L))
			}
		}
		if n < least || n >= below {
			return false
		}
	}
	return true
}

// mayCode tells whether code may be.
func mayCode(c api.Code) bool {
	if c.Regs < 0 || c.Regs > 128 || c.Arrays < 0 || c.Arrays > 128 || c.In < 0 || c.In > c.Arrays || len(c.L) == 0 || len(c.L) > 4096 {
		return false
	}
	for _, x := range c.L {
		if !mayIns(x, c) {
			return false
		}
	}
	end := c.L[len(c.L)-1].Op
	return end == 0 || end == 10
}

// insOf is an instruction's text.
func insOf(x api.Ins) string {
	words := strings.Fields(insTexts()[x.Op])
	for k, w := range words[1:] {
		n := fieldsOf(x)[w[len(w)-1:]]
		words[k+1] = w[:len(w)-1] + strings.Replace(strconv.FormatInt(n, 10), "-", "- ", 1)
	}
	return strings.Join(words, " ")
}

// textOf is code's text.
func textOf(c api.Code) (string, api.Errno) {
	if !mayCode(c) {
		return "", api.ErrArg
	}
	lines := []string{"code " + strconv.Itoa(c.Regs) + " " + strconv.Itoa(c.Arrays) + " " + strconv.Itoa(c.In)}
	for _, x := range c.L {
		lines = append(lines, insOf(x))
	}
	if len(lines)-1+len(strings.Fields(strings.Join(lines, " "))) > 4096 {
		return "", api.ErrLarge
	}
	return strings.Join(lines, "\n"), api.OK
}

// patterns are those of the lines of instructions, by Op, and last that of the line ahead of them.
var patterns = func() []*regexp.Regexp {
	var l []*regexp.Regexp
	for _, text := range append(insTexts(), "code A B C") {
		words := strings.Fields(text)
		for k, w := range words[1:] {
			digits := "([0-9]+)"
			if w == "N" {
				digits = "([0-9]+|- [1-9][0-9]*)"
			}
			words[k+1] = w[:len(w)-1] + digits
		}
		l = append(l, regexp.MustCompile("^"+strings.Join(words, " ")+"$"))
	}
	return l
}()

// numbersOf are the numbers of a line of a pattern, and whether it is one.
func numbersOf(line string, op int) ([]int64, bool) {
	found := patterns[op].FindStringSubmatch(line)
	if found == nil {
		return nil, false
	}
	var l []int64
	for _, s := range found[1:] {
		// Several digits, the first one a 0, are no number.
		if len(s) > 1 && s[0] == '0' {
			return nil, false
		}
		n, _ := strconv.ParseInt(strings.Replace(s, "- ", "-", 1), 10, 64)
		l = append(l, n)
	}
	return l, true
}

// readOf is the instruction of a line.
func readOf(line string) (api.Ins, bool) {
	for op, text := range insTexts() {
		l, is := numbersOf(line, op)
		if !is {
			continue
		}
		x := api.Ins{Op: op}
		for k, w := range strings.Fields(text)[1:] {
			switch w[len(w)-1] {
			case 'A':
				x.A = int(l[k])
			case 'B':
				x.B = int(l[k])
			case 'C':
				x.C = int(l[k])
			default:
				x.N = l[k]
			}
		}
		return x, true
	}
	return api.Ins{}, false
}

// parseOf is the code of a text.
func parseOf(s string) (api.Code, int, api.Errno) {
	tokens, at, e := lexer.Cut(s)
	if e != api.OK {
		return api.Code{}, at, e
	}
	text, _ := lexer.Join(tokens...)
	lines := strings.Split(text, "\n")
	l, is := numbersOf(lines[0], 13)
	if !is {
		return api.Code{}, 0, api.ErrText
	}
	c := api.Code{Regs: int(l[0]), Arrays: int(l[1]), In: int(l[2])}
	for k := 1; k < len(lines); k++ {
		x, is := readOf(lines[k])
		if !is {
			return api.Code{}, k, api.ErrText
		}
		c.L = append(c.L, x)
	}
	if !mayCode(c) {
		return api.Code{}, 0, api.ErrArg
	}
	return c, len(lines), api.OK
}

// readsOf are the registers that an instruction asks for.
func readsOf(x api.Ins) []int {
	var l []int
	if x.Op < 0 || x.Op > 12 {
		return l
	}
	for _, w := range strings.Fields(insTexts()[x.Op])[1:] {
		// What is set is the first one, but where two are held against each other.
		if w == "rA" && x.Op < 11 || w[0] != 'r' {
			continue
		}
		l = append(l, int(fieldsOf(x)[w[1:]]))
	}
	return l
}

// writesOf is the register that an instruction sets.
func writesOf(x api.Ins) (int, bool) {
	if slices.Contains([]int{1, 2, 3, 4, 5, 6, 8}, x.Op) {
		return x.A, true
	}
	return 0, false
}

// nextOf is where an instruction may go on.
func nextOf(x api.Ins, at int) []int {
	switch x.Op {
	case 1, 2, 3, 4, 5, 6, 7, 8, 9:
		return []int{at + 1}
	case 10:
		return []int{x.A}
	case 11, 12:
		return []int{at + 1, x.C}
	}
	return nil
}

// shiftOf is code that is put further on: its text is, place by place.
func shiftOf(c api.Code, by int) (api.Code, api.Errno) {
	if !mayCode(c) || by < 0 || by > 4096 {
		return api.Code{}, api.ErrArg
	}
	if len(c.L)+by > 4096 {
		return api.Code{}, api.ErrLarge
	}
	s := api.Code{Regs: c.Regs, Arrays: c.Arrays, In: c.In, L: make([]api.Ins, by+len(c.L))}
	for k := range s.L {
		if k < by {
			s.L[k] = api.Ins{Op: 10, A: k + 1}
			continue
		}
		s.L[k] = c.L[k-by]
		switch s.L[k].Op {
		case 10:
			s.L[k].A += by
		case 11, 12:
			s.L[k].C += by
		}
	}
	return s, api.OK
}

// sameCode tells whether two are the same.
func sameCode(a, b api.Code) bool {
	if a.Regs != b.Regs || a.Arrays != b.Arrays || a.In != b.In || len(a.L) != len(b.L) {
		return false
	}
	for k, x := range a.L {
		y := b.L[k]
		if x.Op != y.Op || x.A != y.A || x.B != y.B || x.C != y.C || x.N != y.N {
			return false
		}
	}
	return true
}
