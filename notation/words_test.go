package notation_test

import (
	"regexp"
	"slices"
	"strconv"
	"strings"

	"purfle/api"
	"purfle/lexer"
)

// What the chapter's words say, told another way than the program does: what reads goes through all ways to cut tokens in two, what writes puts texts together.

// maxNumber is the greatest number that has a token.
const maxNumber = 999999999999999999

func num(n int64) api.Node { return api.Node{Op: api.NumN, N: n} }

func ref(name string, index ...string) api.Node {
	return api.Node{Op: api.RefN, Name: name, Index: index}
}

func add(a, b api.Node) api.Node { return api.Node{Op: api.AddN, L: []api.Node{a, b}} }
func sub(a, b api.Node) api.Node { return api.Node{Op: api.SubN, L: []api.Node{a, b}} }
func mul(a, b api.Node) api.Node { return api.Node{Op: api.MulN, L: []api.Node{a, b}} }
func neg(a api.Node) api.Node    { return api.Node{Op: api.NegN, L: []api.Node{a}} }
func sum(index string, a api.Node) api.Node {
	return api.Node{Op: api.SumN, Name: index, L: []api.Node{a}}
}

// counted tells numbers from 0 on that look like no order, below a bound.
func counted(salt int) func(below int) int {
	s := uint64(salt)*2862933555777941757 + 3037000493
	return func(below int) int {
		s = s*6364136223846793005 + 1442695040888963407
		return int(s>>33) % below
	}
}

var (
	aWord   = regexp.MustCompile(`^[a-zA-Z][a-zA-Z0-9]{0,15}$`)
	aNumber = regexp.MustCompile(`^(0|[1-9][0-9]{0,17})$`)
	aDecl   = regexp.MustCompile(`^tensor (\S+) \[ (|(?:\d+ , )*\d+ )\] : ([a-zA-Z]\S*)( \d+)?$`)
	aTarget = regexp.MustCompile(`^(\S+) \[ (|(?:\w+ , )*\w+ )\] =( |$)`)
)

// isName tells whether a text is a name.
func isName(s string) bool { return aWord.MatchString(s) && s != "sum" && s != "tensor" }

// isCount tells whether a number has a token.
func isCount(n int64) bool { return n >= 0 && n <= maxNumber }

func isIndex(l []string) bool {
	for _, s := range l {
		if !isName(s) {
			return false
		}
	}
	return len(l) <= 4
}

// depth is how deep an expression is, nodes how many nodes it has.
func depth(n api.Node) int {
	d := 0
	for _, x := range n.L {
		d = max(d, depth(x))
	}
	return d + 1
}

func nodes(n api.Node) int {
	many := 1
	for _, x := range n.L {
		many += nodes(x)
	}
	return many
}

// mayBe tells whether an expression may be.
func mayBe(n api.Node) bool { return depth(n) <= 16 && nodes(n) <= 120 && wellMade(n) }

// wellMade tells whether each node of an expression has just what its kind has.
func wellMade(n api.Node) bool {
	for _, x := range n.L {
		if !wellMade(x) {
			return false
		}
	}
	if n.Op < api.NumN || n.Op > api.SumN {
		return false
	}
	parts := []int{api.NumN: 0, api.RefN: 0, api.AddN: 2, api.SubN: 2, api.MulN: 2, api.NegN: 1, api.SumN: 1}[n.Op]
	if len(n.L) != parts || n.Op != api.RefN && len(n.Index) > 0 || n.Op != api.NumN && n.N != 0 || !isIndex(n.Index) {
		return false
	}
	if n.Op == api.RefN || n.Op == api.SumN {
		return isName(n.Name)
	}
	return n.Name == "" && isCount(n.N)
}

// declMayBe and stmtMayBe tell whether these may be in a program.
func declMayBe(d api.Decl) bool {
	for _, n := range d.Shape {
		if !isCount(int64(n)) {
			return false
		}
	}
	return isName(d.Name) && len(d.Shape) <= 4 && aWord.MatchString(d.Form) && isCount(int64(d.Block))
}

func stmtMayBe(s api.Stmt) bool { return isName(s.Name) && isIndex(s.Index) && mayBe(s.E) }

func progMayBe(p api.Prog) bool {
	for _, d := range p.D {
		if !declMayBe(d) {
			return false
		}
	}
	for _, s := range p.S {
		if !stmtMayBe(s) {
			return false
		}
	}
	return len(p.D) <= 32 && len(p.S) <= 32
}

// listText is a list's text.
func listText(l []string) string {
	if len(l) == 0 {
		return "[ ]"
	}
	return "[ " + strings.Join(l, " , ") + " ]"
}

// text is an expression's.
func text(n api.Node) string {
	switch n.Op {
	case api.NumN:
		return strconv.FormatInt(n.N, 10)
	case api.RefN:
		return n.Name + " " + listText(n.Index)
	case api.NegN:
		return "- " + text(n.L[0])
	case api.SumN:
		return "sum ( " + n.Name + " , " + text(n.L[0]) + " )"
	}
	between := map[int]string{api.AddN: " + ", api.SubN: " - ", api.MulN: " * "}
	return "( " + text(n.L[0]) + between[n.Op] + text(n.L[1]) + " )"
}

// declText and stmtText are lines of a program.
func declText(d api.Decl) string {
	var sizes []string
	for _, n := range d.Shape {
		sizes = append(sizes, strconv.Itoa(n))
	}
	s := "tensor " + d.Name + " " + listText(sizes) + " : " + d.Form
	if d.Block > 0 {
		s += " " + strconv.Itoa(d.Block)
	}
	return s
}

func stmtText(s api.Stmt) string {
	return s.Name + " " + listText(s.Index) + " = " + text(s.E)
}

// progText is a program's.
func progText(p api.Prog) string {
	var lines []string
	for _, d := range p.D {
		lines = append(lines, declText(d))
	}
	for _, s := range p.S {
		lines = append(lines, stmtText(s))
	}
	return strings.Join(lines, "\n")
}

// same tells whether two nodes are the same, both that have an end.
func same(a, b api.Node) bool {
	if a.Op != b.Op || a.N != b.N || a.Name != b.Name || !slices.Equal(a.Index, b.Index) || len(a.L) != len(b.L) {
		return false
	}
	for k := range a.L {
		if !same(a.L[k], b.L[k]) {
			return false
		}
	}
	return true
}

// equal tells whether two programs are the same.
func equal(a, b api.Prog) bool {
	if len(a.D) != len(b.D) || len(a.S) != len(b.S) {
		return false
	}
	for k, d := range a.D {
		if o := b.D[k]; d.Name != o.Name || !slices.Equal(d.Shape, o.Shape) || d.Form != o.Form || d.Block != o.Block {
			return false
		}
	}
	for k, s := range a.S {
		if o := b.S[k]; s.Name != o.Name || !slices.Equal(s.Index, o.Index) || !same(s.E, o.E) {
			return false
		}
	}
	return true
}

// refs are an expression's RefN's, without what stands below them.
func refs(n api.Node) []api.Node {
	if n.Op == api.RefN {
		n.L = nil
		return []api.Node{n}
	}
	var l []api.Node
	for _, x := range n.L {
		l = append(l, refs(x)...)
	}
	return l
}

// free are an expression's indices, those of sums left out.
func free(n api.Node) []string {
	l := n.Index
	if n.Op != api.RefN {
		l = nil
		for _, x := range n.L {
			l = append(l, free(x)...)
		}
	}
	var each []string
	for _, i := range l {
		if !slices.Contains(each, i) && (n.Op != api.SumN || i != n.Name) {
			each = append(each, i)
		}
	}
	return each
}

// chart is tokens, and what is known of what stands from one on, below another one.
type chart struct {
	l     []string
	known map[span]found
}

type span struct {
	what     byte
	from, to int
}

type found struct {
	n  api.Node
	is bool
}

// expression is what tokens are, and whether they are one.
func expression(l []string) (api.Node, bool) {
	c := chart{l: l, known: map[span]found{}}
	f := c.find(span{'e', 0, len(l)})
	return f.n, f.is
}

// find tells whether a span is an expression (e), a term (t), a factor (f), or an atom (a).
func (c chart) find(s span) found {
	f, was := c.known[s]
	if was || s.from >= s.to {
		return f
	}
	switch s.what {
	case 'e':
		f = c.cut(s, 't', map[string]int{"+": api.AddN, "-": api.SubN})
	case 't':
		f = c.cut(s, 'f', map[string]int{"*": api.MulN})
	case 'f':
		f = c.find(span{'a', s.from, s.to})
		if c.l[s.from] == "-" {
			x := c.find(span{'f', s.from + 1, s.to})
			f = found{neg(x.n), x.is}
		}
	case 'a':
		f = c.atom(s)
	}
	c.known[s] = f
	return f
}

// cut looks for a sign that has what s is ahead of it, and the last part behind it.
func (c chart) cut(s span, last byte, signs map[string]int) found {
	for at := s.from + 1; at+1 < s.to; at++ {
		op := signs[c.l[at]]
		if op == 0 {
			continue
		}
		a, b := c.find(span{s.what, s.from, at}), c.find(span{last, at + 1, s.to})
		if a.is && b.is {
			return found{api.Node{Op: op, L: []api.Node{a.n, b.n}}, true}
		}
	}
	return c.find(span{last, s.from, s.to})
}

func (c chart) atom(s span) found {
	l := c.l[s.from:s.to]
	end := l[len(l)-1]
	switch {
	case len(l) == 1 && aNumber.MatchString(l[0]):
		n, _ := strconv.ParseInt(l[0], 10, 64)
		return found{num(n), true}
	case l[0] == "(" && end == ")":
		return c.find(span{'e', s.from + 1, s.to - 1})
	case len(l) > 5 && l[0] == "sum" && l[1] == "(" && isName(l[2]) && l[3] == "," && end == ")":
		x := c.find(span{'e', s.from + 4, s.to - 1})
		return found{sum(l[2], x.n), x.is}
	case len(l) > 2 && isName(l[0]) && l[1] == "[" && end == "]":
		index, is := names(l[2 : len(l)-1])
		return found{ref(l[0], index...), is}
	}
	return found{}
}

// names are those of tokens, with , between, and whether they are such.
func names(l []string) ([]string, bool) {
	var index []string
	for k, s := range l {
		if k%2 == 0 && !isName(s) || k%2 == 1 && s != "," {
			return nil, false
		}
		if k%2 == 0 {
			index = append(index, s)
		}
	}
	return index, len(l) == 0 || len(l)%2 == 1
}

// read is what a text without errors of its tokens is.
func read(s string) (api.Node, api.Errno) {
	l, _, _ := lexer.Cut(s)
	n, is := expression(words(l))
	switch {
	case !is:
		return api.Node{}, api.ErrText
	case !mayBe(n):
		return api.Node{}, api.ErrLarge
	}
	return n, api.OK
}

// words are the texts of tokens.
func words(l []api.Token) []string {
	var w []string
	for _, t := range l {
		w = append(w, t.S)
	}
	return w
}

// parse is what a text without errors of its tokens is, as a program.
func parse(s string) (api.Prog, int, api.Errno) {
	l, _, _ := lexer.Cut(s)
	lines := lexer.Lines(l)
	var p api.Prog
	for n, line := range lines {
		w := words(line)
		d, told := decl(strings.Join(w, " "))
		x, stated := stmt(w)
		switch {
		case told && len(p.S) == 0:
			p.D = append(p.D, d)
		case stated:
			p.S = append(p.S, x)
		default:
			return api.Prog{}, n, api.ErrText
		}
		if !progMayBe(p) {
			return api.Prog{}, n, api.ErrLarge
		}
	}
	return p, len(lines), api.OK
}

// decl is what a line tells of a tensor, and whether it does.
func decl(line string) (api.Decl, bool) {
	m := aDecl.FindStringSubmatch(line)
	if m == nil || !isName(m[1]) {
		return api.Decl{}, false
	}
	d := api.Decl{Name: m[1], Form: m[3]}
	for _, s := range strings.Fields(strings.ReplaceAll(m[2], ",", "")) {
		n, _ := strconv.Atoi(s)
		d.Shape = append(d.Shape, n)
	}
	if m[4] != "" {
		d.Block, _ = strconv.Atoi(m[4][1:])
	}
	return d, true
}

// stmt is the statement that tokens are, and whether they are one.
func stmt(w []string) (api.Stmt, bool) {
	m := aTarget.FindStringSubmatch(strings.Join(w, " "))
	if m == nil || !isName(m[1]) {
		return api.Stmt{}, false
	}
	index, is := names(strings.Fields(m[2]))
	n, behind := expression(w[slices.Index(w, "=")+1:])
	return api.Stmt{Name: m[1], Index: index, E: n}, is && behind
}
