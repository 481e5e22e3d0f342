package lattice_test

import (
	"slices"
	"strings"
	"testing"

	"purfle/api"
	"purfle/lattice"
	"purfle/notation"
)

// picks are numbers that look like no order.
type picks uint64

// below is the next one, from 0 on.
func (p *picks) below(n int) int {
	*p = *p*6364136223846793005 + 1442695040888963407
	return int(*p>>33) % n
}

// of is one of some texts.
func (p *picks) of(l ...string) string { return l[p.below(len(l))] }

// some are so many of some texts, at the most.
func (p *picks) some(many int, l ...string) []string {
	var own []string
	for range p.below(many + 1) {
		own = append(own, p.of(l...))
	}
	return own
}

// set is so many numbers, at the most.
func (p *picks) set(many, greatest int) []int {
	var l []int
	for range p.below(many + 1) {
		l = append(l, p.below(greatest+1))
	}
	return l
}

// expr is the text of an expression, of at most so many nodes.
func (p *picks) expr(most int) string {
	switch kind := p.below(12); {
	case most > 2 && kind < 9:
		left := 1 + p.below(most-2)
		return "(" + p.expr(left) + p.of(" + ", " - ", " * ", " * ") + p.expr(most-1-left) + ")"
	case most > 1 && kind == 9:
		return "- " + p.expr(most-1)
	case most > 1 && kind == 10:
		return "sum(" + p.of("i", "j", "k", "j", "k") + ", " + p.expr(most-1) + ")"
	case kind == 11 && p.below(2) == 0:
		return p.of("0", "1", "2")
	}
	return p.of("a", "b", "c", "d") + "[" + strings.Join(append(p.some(3, "i", "j", "k"), p.of("i", "i", "i", "i", "i", "k")), ", ") + "]"
}

// anyNode is an expression, that has not too many tensors for all sets of them to be gone through.
func anyNode(p *picks) api.Node {
	n, _ := notation.Read(p.expr(1 + p.below(30)))
	return n
}

// spoilt is an expression with something in it, perhaps, that may not be.
func spoilt(n api.Node, p *picks) api.Node {
	if len(n.L) > 0 && p.below(4) > 0 {
		k := p.below(len(n.L))
		n.L[k] = spoilt(n.L[k], p)
		return n
	}
	switch p.below(4) {
	case 0:
		n.Op = p.below(9)
	case 1:
		n.Name = p.of("sum", "i", "0", "")
	case 2:
		n.L = append(n.L, n)
	default:
		n.N--
	}
	return n
}

func TestPointsOfManyExpressions(t *testing.T) {
	seen, several := map[api.Errno]int{}, 0
	for salt := range 20000 {
		p := picks(salt)
		n := anyNode(&p)
		if p.below(50) == 0 {
			n = spoilt(n, &p)
		}
		q := asked{p.of("i", "i", "i", "i", "j", "k", "l"), append(p.some(7, "a", "b", "c", "d", "e"), p.of("a", "b")), p.set(8, 14)}
		want, e := pointsOf(n, q)
		wantPoints(t, n, q.index, q.sparse, want, e)
		seen[e]++
		if len(want) > 1 {
			several++
		}
		holds := holdsOf(n, q)
		if got := lattice.Holds(n, q.index, q.there, q.sparse...); got != holds {
			t.Errorf("Holds of %v, %v: got %v", n, q, got)
		}
		// P13.4
		if l, _ := lattice.Points(n, q.index, q.sparse...); e == api.OK && lattice.May(l, q.there...) != holds {
			t.Errorf("%v, %v: it holds: %v, but its points may not, or the other way", n, q, holds)
		}
	}
	if seen[api.OK] < 15000 || seen[api.ErrArg] < 10 || several < 2500 {
		t.Errorf("%v, %d of several points: the expressions are not such as they should be", seen, several)
	}
}

func TestPointsOfLargeExpressions(t *testing.T) {
	seen := map[api.Errno]int{}
	for salt := range 3000 {
		p := picks(salt*31 + 7)
		part := func() string { return p.expr(1 + p.below(2)*p.below(4)) }
		sum := func() string { return all(2+p.below(3), p.of("+", "-"), part) }
		text := all(2+p.below(7), p.of("*", "*", "+"), sum)
		if p.below(5) == 0 {
			text = p.of("- ", "1 + ", "a[i] - ", "sum(i, ") + text
			text += strings.Repeat(")", strings.Count(text, "(")-strings.Count(text, ")"))
		}
		n, e := notation.Read(text)
		if e != api.OK {
			continue
		}
		q := asked{index: "i", sparse: []string{"a", "b", "c", "d"}}
		many, _, large := manyOf(n, q)
		l, e := lattice.Points(n, "i", q.sparse...)
		seen[e]++
		if large != (e == api.ErrLarge) || !large && len(l) != many || large && len(l) > 0 {
			t.Errorf("Points of %v: got %d, error %d; want %d, %v", n, len(l), e, many, large)
		}
		for k, set := range l {
			if !holdsOf(n, asked{q.index, q.sparse, set}) || k > 0 && !ahead(l[k-1], set) {
				t.Errorf("Points of %v: got %v", n, l)
			}
			// Of many not each one is held against what it would be without some of its own.
			for m := range set {
				if k%5 == salt%5 && holdsOf(n, asked{q.index, q.sparse, slices.Delete(slices.Clone(set), m, m+1)}) {
					t.Errorf("Points of %v: %v is more than there must be", n, set)
				}
			}
		}
	}
	if seen[api.OK] < 1500 || seen[api.ErrLarge] < 50 {
		t.Errorf("%v: the expressions are not such as they should be", seen)
	}
}

// anySets are some sets, of few numbers or of more.
func anySets(p *picks) [][]int {
	greatest := 1 + p.below(12)
	var l [][]int
	for range p.below(14) {
		set := p.set(6, greatest)
		for k := range set {
			set[k] -= greatest / 3
		}
		if len(set) > 0 || p.below(5) == 0 {
			l = append(l, set)
		}
	}
	return l
}

func TestManySets(t *testing.T) {
	left, may := 0, 0
	for salt := range 30000 {
		p := picks(salt)
		l, there := anySets(&p), p.set(8, 9)
		want := tidyOf(l)
		if got := lattice.Tidy(l...); !same(got, want) {
			t.Errorf("Tidy of %v: got %v; want %v", l, got, want)
		}
		if got := lattice.Tidy(want...); !same(got, want) {
			t.Errorf("Tidy of %v, which are: got %v", want, got)
		}
		holds := mayOf(l, there)
		if got := lattice.May(l, there...); got != holds {
			t.Errorf("May of %v, %v there: got %v", l, there, got)
		}
		if lattice.May(want, there...) != holds {
			t.Errorf("May of %v, %v there: not so of these, tidy", l, there)
		}
		if len(want) > 2 {
			left++
		}
		if holds {
			may++
		}
	}
	if left < 9000 || may < 5000 || may > 25000 {
		t.Errorf("%d of several sets, %d that may: the sets are not such as they should be", left, may)
	}
}

// anyTerm is one, of tensors most of which are told, with what should come first.
func anyTerm(p *picks) (api.Term, []string) {
	names := []string{"i", "j", "k", "l", "0", "1"}[:2+p.below(5)]
	ranks := map[string]int{"s": 0, "a": 1, "l": 1, "x": 3, "y": 4, "h": 2, "n0": 2, "sum": 2}
	x := api.Term{K: int64(p.below(5) - 2)}
	for range p.below(6) {
		f := api.Factor{Name: p.of("b", "b", "c", "d", "e", "m", "g", "a", "l", "s", "x", "y", "b", "c")}
		if p.below(40) == 0 {
			f.Name = p.of("h", "p", "q", "r", "t", "n0", "sum", "")
		}
		rank, is := ranks[f.Name]
		if !is {
			rank = 2
		}
		if p.below(60) == 0 {
			rank = p.below(6)
		}
		for range rank {
			f.Index = append(f.Index, p.of(names...))
		}
		x.F = append(x.F, f)
	}
	for _, i := range p.some(3, names...) {
		x.Sum = append(x.Sum, api.Dim{Name: i, Size: p.below(4)})
	}
	return x, p.some(5, "i", "j", "k", "l", "0", "1", "2", "")
}

func TestOrdersOfManyTerms(t *testing.T) {
	d := decls(t)
	seen, other := map[api.Errno]int{}, 0
	for salt := range 40000 {
		p := picks(salt)
		x, first := anyTerm(&p)
		want, e := orderOf(x, first, d)
		wantOrder(t, x, first, d, want, e)
		seen[e]++
		if e == api.OK && !slices.Equal(want, indicesOf(x, first)) {
			other++
		}
		// P13.4
		order, _ := lattice.Order(x, first, d...)
		comes, _ := comesOf(x, d)
		for two := range comes {
			if e == api.OK && slices.Index(order, two[0]) > slices.Index(order, two[1]) {
				t.Errorf("Order of %v: got %v, which has %v", x, order, two)
			}
		}
	}
	if seen[api.OK] < 12000 || seen[api.ErrArg] < 5000 || seen[api.ErrNone] < 1500 || other < 4000 {
		t.Errorf("%v, %d ordered otherwise: the terms are not such as they should be", seen, other)
	}
}

func TestModesOfManyTensors(t *testing.T) {
	seen := map[api.Errno]int{}
	for salt := range 6000 {
		p := picks(salt)
		d := api.Decl{Name: p.of("a", "b", "sum", "a", "x1"), Form: p.of("dense", "coo", "csf", "csr", "csc", "dcsr", "dcsc", "bsr", "bsr", "none", ""), Block: p.below(4)}
		for range []int{2, 2, 2, 0, 1, 2, 3, 4, 5}[p.below(9)] {
			d.Shape = append(d.Shape, []int{4, 6, 2, 6, 4, 0, 1, 3, 1 << 31, 1 << 33, -1}[p.below(7+p.below(5))])
		}
		want, e := modesOf(d)
		wantModes(t, d, want, e)
		seen[e]++
	}
	for _, e := range []api.Errno{api.OK, api.ErrArg, api.ErrLarge, api.ErrShape, api.ErrNone} {
		if seen[e] < 50 {
			t.Errorf("error %d came %d times alone: the tensors are not such as they should be", e, seen[e])
		}
	}
}

// R2

// memory is what lists stand in.
type memory map[any]struct{}

// own notes a list, with the room behind it, and tells whether none that is noted shares it.
func own[T any](m memory, l []T) bool {
	for k := range l[:cap(l)] {
		at := any(&l[:cap(l)][k])
		if _, was := m[at]; was {
			return false
		}
		m[at] = struct{}{}
	}
	return true
}

// sets notes sets, and tells whether each one's numbers are its own.
func (m memory) sets(l [][]int) bool {
	is := own(m, l)
	for _, set := range l {
		is = own(m, set) && is
	}
	return is
}

// fill writes into a list, and behind its end.
func fill[T any](l []T, x T) {
	for k := range l[:cap(l)] {
		l[:cap(l)][k] = x
	}
}

// spoilSets writes into all of some sets.
func spoilSets(l [][]int) {
	for _, set := range l {
		fill(set, 77)
	}
	fill(l, []int{77})
}

// spoilNodes writes into all of a node.
func spoilNodes(n api.Node) {
	for _, part := range n.L {
		spoilNodes(part)
	}
	fill(n.Index, "spoilt")
	fill(n.L, api.Node{Op: 77})
}

// copied are sets, in other memory.
func copied(l [][]int) [][]int {
	var own [][]int
	for _, set := range l {
		own = append(own, slices.Clone(set))
	}
	return own
}

// roomy is a list with something behind its end.
func roomy[T any](l []T, x T) []T { return append(slices.Clone(l), x, x, x)[:len(l)] }

func TestNoSetsHandedInAreChangedOrShared(t *testing.T) {
	for salt := range 5000 {
		p := picks(salt)
		l, there := anySets(&p), roomy(p.set(8, 9), 55)
		for k := range l {
			l[k] = roomy(l[k], 55)
		}
		l = roomy(l, []int{55})
		was, room, wasThere := copied(l), copied(l[:cap(l)]), slices.Clone(there[:cap(there)])
		m := memory{}
		m.sets(l)
		got := lattice.Tidy(l...)
		if !m.sets(got) {
			t.Fatalf("Tidy of %v: it shares what it has", l)
		}
		want := copied(got)
		lattice.May(l, there...)
		if !same(l, was) || !same(l[:cap(l)], room) || !slices.Equal(there[:cap(there)], wasThere) || slices.ContainsFunc(l, func(set []int) bool { return set[:len(set)+3][len(set)] != 55 }) {
			t.Fatalf("changed: got %v and %v", l, there)
		}
		spoilSets(got)
		if !same(l, was) || !same(lattice.Tidy(l...), want) {
			t.Fatalf("written to by who wrote to what was answered: got %v", l)
		}
		got = lattice.Tidy(l...)
		spoilSets(l)
		if !same(got, want) {
			t.Fatalf("Tidy of %v: got %v, once what was handed in is written to", was, got)
		}
	}
}

func TestNoExpressionHandedInIsChangedOrShared(t *testing.T) {
	for salt := range 5000 {
		p := picks(salt)
		n, sparse, there := anyNode(&p), roomy(p.some(5, "a", "b", "c", "d"), "e"), roomy(p.set(6, 8), 55)
		p = picks(salt)
		other := anyNode(&p)
		wasSparse, wasThere := slices.Clone(sparse[:cap(sparse)]), slices.Clone(there[:cap(there)])
		got, _ := lattice.Points(n, "i", sparse...)
		lattice.Holds(n, "i", there, sparse...)
		if !(memory{}).sets(got) {
			t.Fatalf("Points of %v: it shares what it has", n)
		}
		want := copied(got)
		spoilSets(got)
		if again, _ := lattice.Points(n, "i", sparse...); !same(again, want) {
			t.Fatalf("Points of %v: got %v; want %v, as before", n, again, want)
		}
		if !notation.Same(n, other) || !slices.Equal(sparse[:cap(sparse)], wasSparse) || !slices.Equal(there[:cap(there)], wasThere) {
			t.Fatalf("changed: got %v, %v and %v", n, sparse, there)
		}
		got, _ = lattice.Points(n, "i", sparse...)
		spoilNodes(n)
		fill(sparse, "spoilt")
		if !same(got, want) {
			t.Fatalf("got %v, once what was handed in is written to; want %v", got, want)
		}
	}
}

// sameFactor tells whether two tensors stand likewise.
func sameFactor(a, b api.Factor) bool { return a.Name == b.Name && slices.Equal(a.Index, b.Index) }

// sameDecl tells whether two tensors are told likewise.
func sameDecl(a, b api.Decl) bool {
	return a.Name == b.Name && slices.Equal(a.Shape, b.Shape) && a.Form == b.Form && a.Block == b.Block
}

func TestNoTermHandedInIsChangedOrShared(t *testing.T) {
	for salt := range 5000 {
		p := picks(salt)
		x, first := anyTerm(&p)
		p = picks(salt)
		y, wasFirst := anyTerm(&p)
		first = roomy(first, "behind")
		for k := range x.F {
			x.F[k].Index = roomy(x.F[k].Index, "behind")
		}
		d, wasD := decls(t), decls(t)
		m := memory{}
		own(m, first)
		for _, f := range x.F {
			own(m, f.Index)
		}
		for _, z := range d {
			own(m, z.Shape)
		}
		order, e := lattice.Order(x, first, d...)
		lattice.Cycle(x, d...)
		want := slices.Clone(order)
		modes, _ := lattice.Modes(d[p.below(len(d))])
		if !own(m, order) || !own(m, modes) {
			t.Fatalf("Order of %v: it shares what it has", x)
		}
		fill(order, "spoilt")
		fill(modes, 77)
		behind := !slices.Equal(first[len(first):len(first)+3], []string{"behind", "behind", "behind"})
		for _, f := range x.F {
			behind = behind || f.Index[:len(f.Index)+1][len(f.Index)] != "behind"
		}
		if behind || x.K != y.K || !slices.Equal(x.Sum, y.Sum) || !slices.EqualFunc(x.F, y.F, sameFactor) || !slices.Equal(first, wasFirst) || !slices.EqualFunc(d, wasD, sameDecl) {
			t.Fatalf("changed, or written to by who wrote to what was answered: got %v, %v and %v", x, first, d)
		}
		order, f := lattice.Order(x, first, d...)
		for _, g := range x.F {
			fill(g.Index, "spoilt")
		}
		fill(first, "spoilt")
		for _, z := range d {
			fill(z.Shape, 77)
		}
		if !slices.Equal(order, want) || e != f {
			t.Fatalf("got %v, error %d; want %v, error %d, as before", order, f, want, e)
		}
	}
}
