package notation_test

import (
	"math"
	"slices"
	"strconv"
	"strings"
	"testing"

	"purfle/api"
	"purfle/notation"
)

// anyName is a name, mostly one of few.
func anyName(next func(below int) int) string {
	l := []string{"i", "j", "k", "l", "a", "b", "c", "A", "B", "sum1", "Sum", "SUM", "su", "tensors", "Tensor", "x0", "abcdefghijklmnop", "Q123456789012345"}
	if next(3) > 0 {
		l = l[:7]
	}
	return l[next(len(l))]
}

// anyIndex is up to so many names.
func anyIndex(next func(below int) int, most int) []string {
	var l []string
	for range next(most + 1) {
		l = append(l, anyName(next))
	}
	return l
}

// anyCount is a number that has a token.
func anyCount(next func(below int) int) int64 {
	l := []int64{0, 1, 2, 3, 9, 10, 907, math.MaxInt32, math.MaxUint32, maxNumber - 1, maxNumber}
	return l[next(len(l))]
}

// anyNode is an expression of at most so many nodes, at most so deep, that may be as far as its bounds.
func anyNode(next func(below int) int, most, deep int) api.Node {
	kind := next(9)
	switch {
	case most > 2 && deep > 1 && kind < 4:
		left := 1 + next(most-2)
		op := []int{api.AddN, api.SubN, api.MulN, api.MulN}[kind]
		return api.Node{Op: op, L: []api.Node{anyNode(next, left, deep-1), anyNode(next, most-1-left, deep-1)}}
	case most > 1 && deep > 1 && kind == 4:
		return neg(anyNode(next, most-1, deep-1))
	case most > 1 && deep > 1 && kind == 5:
		return sum(anyName(next), anyNode(next, most-1, deep-1))
	case kind == 6:
		return num(anyCount(next))
	}
	return ref(anyName(next), anyIndex(next, 4)...)
}

// expressions are such as may be.
func expressions(many int) []api.Node {
	var l []api.Node
	for salt := range many {
		next := counted(salt)
		l = append(l, anyNode(next, 1+next(120), 1+next(16)))
	}
	return append(l, tree(60, ref("a", "i", "j", "k", "l")), tall(16, num(1)), num(0), num(maxNumber), ref("a"))
}

// tree is a sum of so many of one part, no deeper than need be.
func tree(many int, part api.Node) api.Node {
	if many == 1 {
		return part
	}
	return add(tree(many/2, part), tree(many-many/2, part))
}

// tall is a part below opposites, so deep in all.
func tall(deep int, part api.Node) api.Node {
	for range deep - 1 {
		part = neg(part)
	}
	return part
}

// endless are nodes that stand in themselves.
func endless() []api.Node {
	one := []api.Node{{Op: api.NegN}}
	one[0].L = one
	two := []api.Node{{Op: api.AddN}, {Op: api.AddN}}
	two[0].L, two[1].L = two, two
	far := []api.Node{{Op: api.SumN, Name: "i"}}
	far[0].L = []api.Node{mul(ref("a", "i"), api.Node{Op: api.NegN, L: far})}
	return []api.Node{one[0], two[0], far[0], add(ref("b"), two[1])}
}

// twice is an expression in which each node but the last ones stands twice, so deep: it has many more nodes than can be gone through.
func twice(deep int) api.Node {
	n := num(1)
	for range deep {
		n = add(n, n)
	}
	return n
}

// some is an expression's text, or what it begins with.
func some(n api.Node) string {
	s := strconv.Itoa(n.Op) + " " + strconv.FormatInt(n.N, 10) + " " + strconv.Quote(n.Name) + " " + strings.Join(n.Index, ",") + " of " + strconv.Itoa(len(n.L))
	if wellMade(n) {
		s = text(n)
	}
	return s[:min(len(s), 200)]
}

// P9.1

func TestMay(t *testing.T) {
	for _, n := range expressions(2000) {
		if !mayBe(n) {
			t.Fatalf("made badly: %s", some(n))
		}
		if !notation.May(n) {
			t.Errorf("May of %s: no", some(n))
		}
	}
	for _, n := range []api.Node{
		{Op: api.RefN, Name: "a", Index: []string{}, L: []api.Node{}}, {Op: api.NumN, Index: []string{}, L: []api.Node{}},
		ref("a", "i", "i", "i", "i"), sum("a", ref("a", "a")), sum("i", sum("i", num(0))), mul(num(0), neg(neg(num(0)))),
	} {
		if !notation.May(n) {
			t.Errorf("May of %s: no", some(n))
		}
	}
}

// badNames are no names, badNodes may not be.
func badNames() []string {
	return []string{"", "sum", "tensor", "2", "2a", "a b", " a", "a ", "_", "a_", "+", "[", "é", "a\n", "a#", "\x00", "abcdefghijklmnopq", strings.Repeat("a", 100000)}
}

func badNodes() []api.Node {
	a := num(1)
	l := []api.Node{
		{}, {Op: -1}, {Op: 8}, {Op: math.MaxInt}, {Op: math.MinInt}, {N: 1}, {Name: "a"}, {L: []api.Node{a}},
		num(-1), num(math.MinInt64), num(maxNumber + 1), num(math.MaxInt64), {Op: api.NumN, Name: "a"}, {Op: api.NumN, Index: []string{"i"}}, {Op: api.NumN, L: []api.Node{a}},
		ref(""), {Op: api.RefN, Name: "a", N: 1}, {Op: api.RefN, Name: "a", N: -1}, {Op: api.RefN, Name: "a", L: []api.Node{a}}, ref("a", "i", "j", "k", "l", "m"), ref("a", make([]string, 1000)...),
		{Op: api.SumN, Name: "i"}, {Op: api.SumN, Name: "i", L: []api.Node{a, a}}, {Op: api.SumN, L: []api.Node{a}}, {Op: api.SumN, Name: "i", N: 1, L: []api.Node{a}},
		{Op: api.SumN, Name: "i", Index: []string{"i"}, L: []api.Node{a}}, {Op: api.SumN, Index: []string{"i"}, L: []api.Node{a}},
		{Op: api.NegN}, {Op: api.NegN, L: []api.Node{a, a}}, {Op: api.NegN, N: 1, L: []api.Node{a}}, {Op: api.NegN, Name: "i", L: []api.Node{a}}, {Op: api.NegN, Index: []string{"i"}, L: []api.Node{a}},
	}
	for _, op := range []int{api.AddN, api.SubN, api.MulN} {
		l = append(l, api.Node{Op: op}, api.Node{Op: op, L: []api.Node{a}}, api.Node{Op: op, L: []api.Node{a, a, a}}, api.Node{Op: op, N: 1, L: []api.Node{a, a}},
			api.Node{Op: op, Name: "i", L: []api.Node{a, a}}, api.Node{Op: op, Index: []string{"i"}, L: []api.Node{a, a}}, api.Node{Op: op, L: make([]api.Node, 100000)})
	}
	for _, s := range badNames() {
		l = append(l, ref(s), ref("a", s), ref("a", "i", s), ref("a", s, "i", "j", "k"), sum(s, a))
	}
	return append(append(l, large()...), append(endless(), twice(20), twice(200))...)
}

// large are expressions that may not be only as their bounds go.
func large() []api.Node {
	return []api.Node{
		tall(17, num(1)), tall(18, ref("a")), tall(4000, num(1)), sum("i", tall(16, ref("a", "i"))), tree(61, num(1)), tree(500, ref("a")), mul(num(1), tall(16, num(1))), add(tall(16, num(1)), num(1)),
		neg(add(tree(60, num(1)), num(1))), tree(31, tall(3, num(2))), mul(tree(30, num(1)), tree(31, num(1))), ref("a", "i", "j", "k", "l", "m"), neg(ref("a", "i", "i", "i", "i", "i")),
	}
}

func TestMayNot(t *testing.T) {
	for k, n := range badNodes() {
		for _, x := range []api.Node{n, neg(n), sum("i", n), add(num(1), n), mul(n, num(1)), sub(ref("a"), neg(n))} {
			if notation.May(x) {
				t.Errorf("May of the bad node %d: yes", k)
			}
		}
	}
}

func TestMayAtItsBounds(t *testing.T) {
	for deep := 1; deep < 40; deep++ {
		for _, n := range []api.Node{tall(deep, num(1)), tall(deep, ref("a", "i"))} {
			if want := deep <= 16; notation.May(n) != want {
				t.Errorf("May of what is %d deep: not %v", deep, want)
			}
		}
	}
	for many := 1; many < 80; many++ {
		for _, part := range []api.Node{num(1), ref("a"), neg(num(1)), sum("i", ref("a", "i"))} {
			for _, n := range []api.Node{tree(many, part), neg(tree(many, part)), sub(tree(many, part), num(2))} {
				if want := nodes(n) <= 120; notation.May(n) != want {
					t.Errorf("May of %d nodes: not %v", nodes(n), want)
				}
			}
		}
	}
}

// changed calls f with an expression, each time with one field of one of its nodes changed.
func changed(n *api.Node, f func()) {
	a := num(1)
	was := *n
	for op := -1; op < 10; op++ {
		n.Op = op
		f()
		*n = was
	}
	for _, k := range []int64{0, 1, -1, maxNumber, maxNumber + 1, math.MinInt64} {
		n.N = k
		f()
		*n = was
	}
	for _, s := range []string{"", "a", "z", "sum", "tensor", "2", "+"} {
		n.Name = s
		f()
		n.Name, n.Index = was.Name, []string{s}
		f()
		n.Index = append(slices.Clone(was.Index), s)
		f()
		*n = was
	}
	for _, l := range [][]api.Node{nil, {}, {a}, {a, a}, {a, a, a}, {{}}, append(slices.Clone(was.L), a)} {
		n.L = l
		f()
		*n = was
	}
	for k := range n.L {
		changed(&n.L[k], f)
	}
}

func TestMayOfAllChanges(t *testing.T) {
	for salt := range 300 {
		next := counted(salt)
		n := anyNode(next, 8, 5)
		changed(&n, func() {
			if want := mayBe(n); notation.May(n) != want {
				t.Errorf("May of %s: not %v", some(n), want)
			}
		})
	}
}

// anyDecl, anyStmt and anyProg may be.
func anyDecl(next func(below int) int) api.Decl {
	d := api.Decl{Name: anyName(next), Form: append([]string{"sum", "tensor", "csr"}, anyName(next))[next(4)]}
	for range next(5) {
		d.Shape = append(d.Shape, int(anyCount(next)))
	}
	if next(3) == 0 {
		d.Block = int(anyCount(next))
	}
	return d
}

func anyStmt(next func(below int) int, most int) api.Stmt {
	return api.Stmt{Name: anyName(next), Index: anyIndex(next, 4), E: anyNode(next, most, 16)}
}

func anyProg(next func(below int) int, lines, most int) api.Prog {
	var p api.Prog
	for range next(lines + 1) {
		p.D = append(p.D, anyDecl(next))
	}
	for range next(lines + 1) {
		p.S = append(p.S, anyStmt(next, most))
	}
	return p
}

// plain is a program of a tensor and a statement.
func plain() api.Prog {
	return api.Prog{D: []api.Decl{{Name: "a", Shape: []int{2, 3}, Form: "csr"}}, S: []api.Stmt{{Name: "b", Index: []string{"i"}, E: ref("a", "i", "k")}}}
}

func wantCheck(t *testing.T, what string, p api.Prog, want api.Errno) {
	t.Helper()
	if e := notation.Check(p); e != want {
		t.Errorf("Check of %s: error %d; want %d", what, e, want)
	}
}

func TestCheck(t *testing.T) {
	wantCheck(t, "none", api.Prog{}, api.OK)
	wantCheck(t, "a plain one", plain(), api.OK)
	for salt := range 300 {
		wantCheck(t, strconv.Itoa(salt), anyProg(counted(salt), 32, 20), api.OK)
	}
	for _, n := range []int{0, 1, 31, 32, 33, 34, 1000} {
		want := api.OK
		if n > 32 {
			want = api.ErrArg
		}
		p := plain()
		wantCheck(t, strconv.Itoa(n)+" tensors", api.Prog{D: slices.Repeat(p.D, n), S: p.S}, want)
		wantCheck(t, strconv.Itoa(n)+" statements", api.Prog{D: p.D, S: slices.Repeat(p.S, n)}, want)
	}
}

func TestCheckOfTensorsAndStatements(t *testing.T) {
	for _, s := range append(badNames(), "a", "i", "Sum", "sums", "abcdefghijklmnop") {
		for _, d := range []api.Decl{{Name: s, Form: "csr"}, {Name: "a", Form: s}, {Name: s, Form: s, Shape: []int{1}, Block: 1}} {
			wantDecl(t, d)
		}
		for _, x := range []api.Stmt{{Name: s, E: num(1)}, {Name: "a", Index: []string{s}, E: num(1)}, {Name: "a", Index: []string{"i", "j", "k", s}, E: num(1)}, {Name: "a", E: ref(s)}} {
			wantStmt(t, x)
		}
	}
	for _, n := range []int{0, 1, -1, maxNumber, maxNumber + 1, math.MaxInt, math.MinInt} {
		for _, shape := range [][]int{{n}, {1, n}, {n, 1, 2, 3}, {1, 2, 3, n}, {1, 2, 3, 4, n}} {
			wantDecl(t, api.Decl{Name: "a", Form: "csr", Shape: shape})
		}
		wantDecl(t, api.Decl{Name: "a", Form: "csr", Block: n})
	}
	wantDecl(t, api.Decl{Name: "a", Form: "csr", Shape: make([]int, 100000)})
	wantDecl(t, api.Decl{})
	wantStmt(t, api.Stmt{})
	wantStmt(t, api.Stmt{Name: "a", E: ref("a", "i", "j", "k", "l"), Index: []string{"i", "j", "k", "l"}})
	wantStmt(t, api.Stmt{Name: "a", E: num(1), Index: []string{"i", "j", "k", "l", "m"}})
	wantStmt(t, api.Stmt{Name: "a", Index: []string{"i", "i"}, E: num(1)})
	for k, n := range badNodes() {
		for _, s := range [][]api.Stmt{{{Name: "a", E: n}}, {{Name: "a", E: num(1)}, {Name: "a", E: n}}} {
			wantCheck(t, "the bad node "+strconv.Itoa(k), api.Prog{S: s}, api.ErrArg)
		}
	}
}

// wantDecl wants of a tensor's line, and wantStmt of a statement, that a program with it may be as the words say, wherever it stands in it.
func wantDecl(t *testing.T, d api.Decl) {
	t.Helper()
	p := plain()
	for _, p.D = range [][]api.Decl{{d}, append(plain().D, d), append([]api.Decl{d}, plain().D...)} {
		wantProg(t, p)
	}
}

func wantStmt(t *testing.T, s api.Stmt) {
	t.Helper()
	p := plain()
	for _, p.S = range [][]api.Stmt{{s}, append(plain().S, s), append([]api.Stmt{s}, plain().S...)} {
		wantProg(t, p)
	}
}

func wantProg(t *testing.T, p api.Prog) {
	t.Helper()
	want := api.OK
	if !progMayBe(p) {
		want = api.ErrArg
	}
	wantCheck(t, "a program", p, want)
	if s, e := notation.Text(p); e != want || e != api.OK && s != "" {
		t.Errorf("Text: got %q, error %d; want %d", s, e, want)
	}
}

func TestSame(t *testing.T) {
	l := append(expressions(60), badNodes()...)
	// The endless ones, and those with more nodes than can be gone through, are for another test.
	l = l[:len(l)-6]
	for i, a := range l {
		for k, b := range l {
			if want := same(a, b); notation.Same(a, b) != want {
				t.Errorf("Same of %d and %d: not %v", i, k, want)
			}
		}
	}
}

func TestSameOfAllChanges(t *testing.T) {
	for salt := range 200 {
		n, was := anyNode(counted(salt), 8, 5), anyNode(counted(salt), 8, 5)
		changed(&n, func() {
			want := same(n, was)
			if notation.Same(n, was) != want || notation.Same(was, n) != want || !notation.Same(n, n) {
				t.Errorf("Same of %s and %s: not %v", some(n), some(was), want)
			}
		})
		if !notation.Same(n, was) {
			t.Errorf("Same of %s: no", some(n))
		}
	}
	for _, x := range [][2]api.Node{
		{{Index: nil, L: nil}, {Index: []string{}, L: []api.Node{}}}, {ref("a"), ref("a", []string{}...)}, {{}, {}}, {tall(5000, num(1)), tall(5000, num(1))},
	} {
		if !notation.Same(x[0], x[1]) {
			t.Errorf("Same of %s and %s: no", some(x[0]), some(x[1]))
		}
	}
	for _, x := range [][2]api.Node{
		{add(num(1), num(2)), add(num(2), num(1))}, {ref("a", "i", "j"), ref("a", "j", "i")}, {ref("a", "i"), ref("a", "i", "i")}, {sum("i", num(1)), sum("j", num(1))},
		{add(add(num(1), num(2)), num(3)), add(num(1), add(num(2), num(3)))}, {num(1), num(1 + 1<<32)}, {tall(5000, num(1)), tall(5001, num(1))},
	} {
		if notation.Same(x[0], x[1]) {
			t.Errorf("Same of %s and %s: yes", some(x[0]), some(x[1]))
		}
	}
}

func TestEqual(t *testing.T) {
	var l []api.Prog
	for salt := range 60 {
		l = append(l, anyProg(counted(salt), 2, 4))
	}
	for i, p := range l {
		for k, q := range l {
			if want := equal(p, q); notation.Equal(p, q) != want {
				t.Errorf("Equal of %d and %d: not %v", i, k, want)
			}
		}
	}
	if !notation.Equal(api.Prog{}, api.Prog{D: []api.Decl{}, S: []api.Stmt{}}) {
		t.Error("Equal of programs of nothing: no")
	}
}

func TestEqualOfAllChanges(t *testing.T) {
	for k, change := range []func(p *api.Prog){
		func(p *api.Prog) { p.D[0].Name = "b" }, func(p *api.Prog) { p.D[0].Shape = nil }, func(p *api.Prog) { p.D[0].Shape[1] = 4 },
		func(p *api.Prog) { p.D[0].Shape = append(p.D[0].Shape, 1) }, func(p *api.Prog) { p.D[0].Form = "csc" }, func(p *api.Prog) { p.D[0].Block = 1 },
		func(p *api.Prog) { p.D = nil }, func(p *api.Prog) { p.D = append(p.D, p.D[0]) }, func(p *api.Prog) { p.S = nil }, func(p *api.Prog) { p.S = append(p.S, p.S[0]) },
		func(p *api.Prog) { p.S[0].Name = "a" }, func(p *api.Prog) { p.S[0].Index = nil }, func(p *api.Prog) { p.S[0].Index[0] = "k" },
		func(p *api.Prog) { p.S[0].Index = append(p.S[0].Index, "k") }, func(p *api.Prog) { p.S[0].E = num(1) }, func(p *api.Prog) { p.S[0].E.Index[1] = "l" },
		func(p *api.Prog) { p.S[0].E.N = 1 },
	} {
		p, q := plain(), plain()
		if !notation.Equal(p, q) {
			t.Fatal("Equal of a program: no")
		}
		change(&p)
		if notation.Equal(p, q) || notation.Equal(q, p) {
			t.Errorf("Equal once changed, %d: yes", k)
		}
	}
	// They need not be such as may be.
	bad := api.Prog{D: []api.Decl{{Block: -1}}, S: []api.Stmt{{Name: "sum"}}}
	if !notation.Equal(bad, bad) {
		t.Error("Equal of a program that may not be: no")
	}
}

func wantRefs(t *testing.T, n api.Node, wantRefs []api.Node, wantFree []string) {
	t.Helper()
	if l := notation.Refs(n); !slices.EqualFunc(l, wantRefs, same) {
		t.Errorf("Refs of %s: got %v; want %v", some(n), l, wantRefs)
	}
	if l := notation.Free(n); !slices.Equal(l, wantFree) {
		t.Errorf("Free of %s: got %v; want %v", some(n), l, wantFree)
	}
}

func TestRefsAndFree(t *testing.T) {
	ab, c := ref("a", "i", "j"), ref("c", "k")
	wantRefs(t, num(1), nil, nil)
	wantRefs(t, ref("a"), []api.Node{ref("a")}, nil)
	wantRefs(t, ab, []api.Node{ab}, []string{"i", "j"})
	wantRefs(t, ref("a", "j", "i", "j"), []api.Node{ref("a", "j", "i", "j")}, []string{"j", "i"})
	wantRefs(t, mul(c, neg(ab)), []api.Node{c, ab}, []string{"k", "i", "j"})
	wantRefs(t, sub(ab, add(c, ab)), []api.Node{ab, c, ab}, []string{"i", "j", "k"})
	wantRefs(t, sum("i", ab), []api.Node{ab}, []string{"j"})
	wantRefs(t, sum("k", ab), []api.Node{ab}, []string{"i", "j"})
	wantRefs(t, sum("i", sum("j", ab)), []api.Node{ab}, nil)
	wantRefs(t, sum("a", ref("a", "a")), []api.Node{ref("a", "a")}, nil)
	// Only there.
	wantRefs(t, add(sum("i", ab), ref("d", "i")), []api.Node{ab, ref("d", "i")}, []string{"j", "i"})
	wantRefs(t, add(ref("d", "i"), sum("i", ab)), []api.Node{ref("d", "i"), ab}, []string{"i", "j"})
	wantRefs(t, mul(sum("i", sum("i", ref("a", "i"))), sum("j", ref("a", "i"))), []api.Node{ref("a", "i"), ref("a", "i")}, []string{"i"})
	wantRefs(t, sum("i", add(sum("i", ref("a", "i")), ref("b", "i", "j"))), []api.Node{ref("a", "i"), ref("b", "i", "j")}, []string{"j"})
	wantRefs(t, sub(sum("k", add(ref("b", "k"), ref("c", "i"))), ref("b", "k")), []api.Node{ref("b", "k"), ref("c", "i"), ref("b", "k")}, []string{"i", "k"})
	// Of whatever node.
	wantRefs(t, api.Node{}, nil, nil)
	wantRefs(t, api.Node{Index: []string{"i"}}, nil, nil)
	wantRefs(t, api.Node{Op: 99, L: []api.Node{ab, {Op: -1, L: []api.Node{c}}, ref("")}}, []api.Node{ab, c, ref("")}, []string{"i", "j", "k"})
	wantRefs(t, api.Node{Op: api.NumN, Index: []string{"z"}, L: []api.Node{c}}, []api.Node{c}, []string{"k"})
	wantRefs(t, api.Node{Op: api.NegN, L: []api.Node{c, ab, c}}, []api.Node{c, ab, c}, []string{"k", "i", "j"})
	wantRefs(t, api.Node{Op: api.SumN, Name: "k", L: []api.Node{c, ref("", "", "k", "sum"), ab}}, []api.Node{c, ref("", "", "k", "sum"), ab}, []string{"", "sum", "i", "j"})
	wantRefs(t, api.Node{Op: api.SumN, L: []api.Node{ref("a", "")}}, []api.Node{ref("a", "")}, nil)
	wantRefs(t, api.Node{Op: api.AddN, Name: "k", L: []api.Node{c}}, []api.Node{c}, []string{"k"})
	wantRefs(t, ref("a", "1", "2", "3", "4", "5", "6"), []api.Node{ref("a", "1", "2", "3", "4", "5", "6")}, []string{"1", "2", "3", "4", "5", "6"})
	// What stands below a RefN plays no part.
	wantRefs(t, api.Node{Op: api.RefN, Name: "a", Index: []string{"i"}, L: []api.Node{ab, c}}, []api.Node{ref("a", "i")}, []string{"i"})
	wantRefs(t, api.Node{Op: api.RefN, Name: "a", L: endless()}, []api.Node{ref("a")}, nil)
}

func TestRefsAndFreeOfMany(t *testing.T) {
	for _, n := range expressions(2000) {
		wantRefs(t, n, refs(n), free(n))
	}
	for salt := range 200 {
		n := anyNode(counted(salt), 8, 5)
		changed(&n, func() { wantRefs(t, n, refs(n), free(n)) })
	}
	n := tall(60000, ref("a", "i"))
	wantRefs(t, n, []api.Node{ref("a", "i")}, []string{"i"})
	n = ref("a", "i", "j")
	for range 60000 {
		n = sum("i", n)
	}
	wantRefs(t, n, []api.Node{ref("a", "i", "j")}, []string{"j"})
}

// R1

func TestCallsEnd(t *testing.T) {
	for k, n := range append(endless(), twice(300)) {
		for i, m := range append(endless(), twice(300)) {
			if got := notation.Same(n, m); got != (i == k) {
				t.Errorf("Same of %d and %d: got %v", k, i, got)
			}
		}
		if notation.May(n) || notation.Check(api.Prog{S: []api.Stmt{{Name: "a", E: n}}}) != api.ErrArg {
			t.Errorf("%d may be", k)
		}
		if s, e := notation.Write(n); s != "" || e != api.ErrArg {
			t.Errorf("Write of %d: got %s, error %d", k, s, e)
		}
	}
	for k, n := range endless() {
		notation.Refs(n)
		notation.Free(n)
		p := api.Prog{S: []api.Stmt{{Name: "a", E: n}}}
		if s, e := notation.Text(p); s != "" || e != api.ErrArg || !notation.Equal(p, p) {
			t.Errorf("Text of %d: got %s, error %d", k, s, e)
		}
	}
}
