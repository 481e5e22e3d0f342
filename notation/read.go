package notation

import (
	"slices"

	"purfle/api"
)

// tokens are some, side by side, and how many of them are read.
type tokens struct {
	all  []api.Token
	read int
}

// reader reads expressions, and lines of programs. Each of its methods reads something of what is next, and tells whether it is there; if it is not, what is read is none at all, however it goes on.
type reader struct {
	tokens
	signs map[int]api.Token
}

// open is a reader of tokens, ahead of the first one.
func open(l []api.Token) *reader {
	return &reader{tokens: tokens{all: l}, signs: signs()}
}

// grown is a program with one more line.
func grown(p api.Prog, line []api.Token) (api.Prog, api.Errno) {
	r := open(line)
	is := false
	if r.take(word(tensorWord)) {
		var d api.Decl
		d, is = r.decl()
		is = is && len(p.S) == 0
		p.D = append(p.D, d)
	} else {
		var s api.Stmt
		s, is = r.stmt()
		p.S = append(p.S, s)
	}
	if !is || !r.done() {
		return api.Prog{}, api.ErrText
	}
	// Made of a line's tokens, it is only its bounds that it may be beyond.
	if Check(p) != api.OK {
		return api.Prog{}, api.ErrLarge
	}
	return p, api.OK
}

// decl reads what is told of a tensor, behind the word that begins it.
func (r *reader) decl() (api.Decl, bool) {
	name, named := r.name()
	shape, shaped := list(r, r.size)
	parted := r.take(sign(":"))
	form, formed := r.next(api.WordT)
	block, _ := r.size()
	return api.Decl{Name: name, Shape: shape, Form: form.S, Block: block}, named && shaped && parted && formed
}

// stmt reads a statement.
func (r *reader) stmt() (api.Stmt, bool) {
	t, told := r.ref()
	parted := r.take(sign("="))
	n, is := r.expression()
	return api.Stmt{Name: t.Name, Index: t.Index, E: n}, told && parted && is
}

// expression reads terms with + or - between.
func (r *reader) expression() (api.Node, bool) {
	return r.chain(r.term, api.AddN, api.SubN)
}

// term reads factors with * between.
func (r *reader) term() (api.Node, bool) {
	return r.chain(r.factor, api.MulN)
}

// chain reads parts with signs between: each is put together with all that is ahead of it.
func (r *reader) chain(part func() (api.Node, bool), ops ...int) (api.Node, bool) {
	n, is := part()
	for is {
		k := slices.IndexFunc(ops, func(op int) bool { return r.take(r.signs[op]) })
		if k < 0 {
			return n, true
		}
		var behind api.Node
		behind, is = part()
		n = api.Node{Op: ops[k], L: []api.Node{n, behind}}
	}
	return api.Node{}, false
}

// factor reads an atom, or - and a factor.
func (r *reader) factor() (api.Node, bool) {
	if !r.take(sign("-")) {
		return r.atom()
	}
	n, is := r.factor()
	return api.Node{Op: api.NegN, L: []api.Node{n}}, is
}

// atom reads a number, a sum, an expression in brackets, or a tensor at indices.
func (r *reader) atom() (api.Node, bool) {
	if t, is := r.next(api.NumberT); is {
		return api.Node{Op: api.NumN, N: t.N}, true
	}
	if r.take(word(sumWord)) {
		return r.sum()
	}
	if r.take(sign("(")) {
		n, is := r.expression()
		return n, is && r.take(sign(")"))
	}
	return r.ref()
}

// sum reads a sum, behind the word that begins it.
func (r *reader) sum() (api.Node, bool) {
	opens := r.take(sign("("))
	name, named := r.name()
	parted := r.take(sign(","))
	n, is := r.expression()
	return api.Node{Op: api.SumN, Name: name, L: []api.Node{n}}, opens && named && parted && is && r.take(sign(")"))
}

// ref reads a tensor at indices.
func (r *reader) ref() (api.Node, bool) {
	name, named := r.name()
	index, listed := list(r, r.name)
	return api.Node{Op: api.RefN, Name: name, Index: index}, named && listed
}

// list reads [ and ], and between them elements, with , between.
func list[T any](r *reader, element func() (T, bool)) ([]T, bool) {
	if !r.take(sign("[")) {
		return nil, false
	}
	var l []T
	for !r.take(sign("]")) {
		if len(l) > 0 && !r.take(sign(",")) {
			return nil, false
		}
		x, is := element()
		if !is {
			return nil, false
		}
		l = append(l, x)
	}
	return l, true
}

// name reads a name.
func (r *reader) name() (string, bool) {
	t, is := r.next(api.WordT)
	return t.S, is && isName(t.S)
}

// size reads how many places there are.
func (r *reader) size() (int, bool) {
	t, is := r.next(api.NumberT)
	return int(t.N), is
}

// next reads a token of a kind.
func (r *reader) next(kind int) (api.Token, bool) {
	if r.done() || r.all[r.read].Kind != kind {
		return api.Token{}, false
	}
	r.read++
	return r.all[r.read-1], true
}

// take reads a token that is told, and tells whether it is next.
func (r *reader) take(t api.Token) bool {
	if r.done() || r.all[r.read] != t {
		return false
	}
	r.read++
	return true
}

// done tells whether all tokens are read.
func (r *reader) done() bool {
	return r.read == len(r.all)
}
