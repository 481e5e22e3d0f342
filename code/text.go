package code

import (
	"strings"

	"purfle/api"
	"purfle/lexer"
)

// codeTokens are those of code that may be.
func codeTokens(c api.Code) []api.Token {
	l := first().tokens([4]int64{int64(c.Regs), int64(c.Arrays), int64(c.In)})
	for _, x := range c.L {
		s, _ := shapeOf(x.Op)
		l = append(l, api.Token{Kind: api.LineT})
		l = append(l, s.tokens(parts(x))...)
	}
	return l
}

// tokens are those of a line of a shape.
func (s shape) tokens(p [4]int64) []api.Token {
	l := []api.Token{word(s.word)}
	for k, kind := range s.behind {
		l = append(l, partTokens(kind, p[k])...)
	}
	return l
}

// partTokens are those of a part of a kind.
func partTokens(kind int, n int64) []api.Token {
	if kind == nothing {
		return nil
	}
	if m := mark(kind); m != "" {
		return []api.Token{word(m + lexer.Digits(n))}
	}
	if n < 0 {
		return []api.Token{minus(), numeral(-n)}
	}
	return []api.Token{numeral(n)}
}

// mark is what is ahead of the digits of a part of a kind, in one word with them.
func mark(kind int) string {
	switch kind {
	case sets, asks:
		return "r"
	case array:
		return "a"
	}
	return ""
}

// readCode is the code that lines are, may it be or not; or the number of the first line that is none such.
func readCode(lines [][]api.Token) (api.Code, int, bool) {
	if len(lines) == 0 {
		return api.Code{}, 0, false
	}
	p, is := first().read(lines[0])
	if !is {
		return api.Code{}, 0, false
	}
	c := api.Code{Regs: int(p[0]), Arrays: int(p[1]), In: int(p[2])}
	for k, line := range lines[1:] {
		x, is := readIns(line)
		if !is {
			return api.Code{}, k + 1, false
		}
		c.L = append(c.L, x)
	}
	return c, 0, true
}

// readIns is the instruction that a line is, and whether it is one.
func readIns(line []api.Token) (api.Ins, bool) {
	op, is := opOf(line[0].S)
	if !is {
		return api.Ins{}, false
	}
	s, _ := shapeOf(op)
	p, is := s.read(line)
	return whole(op, p), is
}

// read are the parts of a line, and whether it is of the shape.
func (s shape) read(line []api.Token) ([4]int64, bool) {
	var p [4]int64
	is := line[0].S == s.word
	left := line[1:]
	for k, kind := range s.behind {
		n, tokens := readPart(kind, left)
		is = is && (tokens > 0 || kind == nothing)
		p[k], left = n, left[tokens:]
	}
	return p, is && len(left) == 0
}

// readPart is the part of a kind that tokens begin with, and how many of them it is: none, if they do not begin with one.
func readPart(kind int, l []api.Token) (int64, int) {
	if kind == nothing || len(l) == 0 {
		return 0, 0
	}
	if kind == number && l[0] == minus() {
		// 0 is not below 0, and has no sign.
		if n, tokens := readPart(count, l[1:]); n > 0 {
			return -n, tokens + 1
		}
		return 0, 0
	}
	digits, marked := strings.CutPrefix(l[0].S, mark(kind))
	n, is := lexer.Number(digits)
	if !marked || !is {
		return 0, 0
	}
	return n, 1
}

// word is the token of a word.
func word(s string) api.Token {
	return api.Token{Kind: api.WordT, S: s}
}

// numeral is the token of a number from 0 on.
func numeral(n int64) api.Token {
	return api.Token{Kind: api.NumberT, S: lexer.Digits(n), N: n}
}

// minus is the sign that is ahead of a number below 0.
func minus() api.Token {
	return api.Token{Kind: api.SignT, S: "-"}
}
