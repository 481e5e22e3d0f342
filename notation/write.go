package notation

import (
	"slices"

	"purfle/api"
	"purfle/lexer"
)

// signs are those that stand between two parts.
func signs() map[int]api.Token {
	return map[int]api.Token{api.AddN: sign("+"), api.SubN: sign("-"), api.MulN: sign("*")}
}

// progTokens are those of a program that may be.
func progTokens(p api.Prog) []api.Token {
	var lines [][]api.Token
	for _, d := range p.D {
		lines = append(lines, declTokens(d))
	}
	for _, s := range p.S {
		lines = append(lines, stmtTokens(s))
	}
	return between(lines, api.Token{Kind: api.LineT})
}

// declTokens are those of what is told of a tensor.
func declTokens(d api.Decl) []api.Token {
	l := slices.Concat([]api.Token{word(tensorWord), word(d.Name)}, listTokens(d.Shape, number), []api.Token{sign(":"), word(d.Form)})
	if d.Block > 0 {
		l = append(l, number(d.Block))
	}
	return l
}

// stmtTokens are those of a statement.
func stmtTokens(s api.Stmt) []api.Token {
	return slices.Concat(refTokens(s.Name, s.Index), []api.Token{sign("=")}, nodeTokens(s.E))
}

// nodeTokens are those of an expression that may be.
func nodeTokens(n api.Node) []api.Token {
	switch n.Op {
	case api.NumN:
		return []api.Token{number(n.N)}
	case api.RefN:
		return refTokens(n.Name, n.Index)
	case api.NegN:
		return append([]api.Token{sign("-")}, nodeTokens(n.L[0])...)
	case api.SumN:
		ahead := []api.Token{word(sumWord), sign("("), word(n.Name), sign(",")}
		return slices.Concat(ahead, nodeTokens(n.L[0]), []api.Token{sign(")")})
	}
	parts := [][]api.Token{nodeTokens(n.L[0]), nodeTokens(n.L[1])}
	return slices.Concat([]api.Token{sign("(")}, between(parts, signs()[n.Op]), []api.Token{sign(")")})
}

// refTokens are those of a tensor at indices.
func refTokens(name string, index []string) []api.Token {
	return append([]api.Token{word(name)}, listTokens(index, word)...)
}

// listTokens are those of elements with , between, in [ and ].
func listTokens[T any](l []T, element func(T) api.Token) []api.Token {
	var parts [][]api.Token
	for _, x := range l {
		parts = append(parts, []api.Token{element(x)})
	}
	return slices.Concat([]api.Token{sign("[")}, between(parts, sign(",")), []api.Token{sign("]")})
}

// between are parts, one behind the other, with a token between two.
func between(parts [][]api.Token, t api.Token) []api.Token {
	var l []api.Token
	for k, part := range parts {
		if k > 0 {
			l = append(l, t)
		}
		l = append(l, part...)
	}
	return l
}

// word is the token of a word.
func word(s string) api.Token {
	return api.Token{Kind: api.WordT, S: s}
}

// sign is the token of a sign.
func sign(s string) api.Token {
	return api.Token{Kind: api.SignT, S: s}
}

// number is the token of a number.
func number[T int | int64](n T) api.Token {
	return api.Token{Kind: api.NumberT, S: lexer.Digits(int64(n)), N: int64(n)}
}
