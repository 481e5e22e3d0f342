package terms_test

import (
	"math"
	"slices"
	"strconv"
	"strings"
	"testing"

	"purfle/api"
	"purfle/mean"
	"purfle/notation"
	"purfle/shape"
	"purfle/terms"
)

// picks are numbers that look like no order.
type picks uint64

// below is the next one, from 0 on.
func (p *picks) below(n int) int {
	*p = *p*6364136223846793005 + 1442695040888963407
	return int(*p>>33) % n
}

// of is one of some texts.
func (p *picks) of(l ...string) string { return l[p.below(len(l))] }

// indices are some for a tensor's modes, of which one in so many goes not with its mode (0: none).
func (p *picks) indices(shape []int, wrong int) []string {
	var l []string
	for _, size := range shape {
		i := []string{"z", "o", p.of("i", "j"), p.of("k", "l")}[size]
		if wrong > 0 && p.below(wrong) == 0 {
			i = p.of("z", "o", "i", "j", "k", "l", "m")
		}
		l = append(l, i)
	}
	return l
}

// tensor is one that is told, at indices.
func (p *picks) tensor(wrong int) string {
	names := []string{"a", "b", "c", "s", "q", "x", "e", "f"}
	shapes := [][]int{{2}, {2, 3}, {3}, nil, {3, 3}, {2, 3, 1, 2}, {0}, {0, 3}}
	k := p.below(len(names))
	if k > 5 && p.below(3) > 0 {
		// Those without places more seldom, as they leave nothing of what stands beside them.
		k -= 6
	}
	return names[k] + "[" + strings.Join(p.indices(shapes[k], wrong), ", ") + "]"
}

// expr is the text of an expression, of at most so many nodes.
func (p *picks) expr(most, wrong int) string {
	switch kind := p.below(12); {
	case most > 2 && kind < 8:
		left := 1 + p.below(most-2)
		return "(" + p.expr(left, wrong) + p.of(" + ", " - ", " * ", " * ") + p.expr(most-1-left, wrong) + ")"
	case most > 1 && kind == 8:
		return "- " + p.expr(most-1, wrong)
	case most > 1 && kind == 9:
		return p.over(p.expr(most-1, wrong))
	case kind == 10:
		return p.of("0", "1", "2", "3", "4294967296")
	}
	return p.tensor(wrong)
}

// over is the text of a sum over one of a part's indices, if it has one.
func (p *picks) over(part string) string {
	n, e := notation.Read(part)
	if e != api.OK {
		return part
	}
	var l []string
	for _, r := range notation.Refs(n) {
		l = append(l, r.Index...)
	}
	if len(l) == 0 {
		return "- " + part
	}
	return "sum(" + p.of(l...) + ", " + part + ")"
}

// anyProg is a program of one statement, or none, if its expression may not be.
func anyProg(salt int) api.Prog {
	p := picks(salt*977 + 13)
	wrong := []int{0, 0, 5, 20}[salt%4]
	factors := []string{p.expr(1+p.below(16), wrong)}
	// Some are products of what is longer, of which there may come too much.
	for range p.below(5) * (salt % 3 / 2) {
		factors = append(factors, p.expr(13, wrong))
	}
	q, _, _ := notation.Parse(told + p.tensor(wrong) + " = " + strings.Join(factors, " * "))
	return q
}

// much is how much work terms are, of all places of a target.
func much(l []api.Term, cells int) int {
	n := 0
	for _, x := range l {
		n += workOf(x) * cells
	}
	return n
}

func TestAllOfManyStatements(t *testing.T) {
	seen, summed, left := map[api.Errno]int{}, 0, 0
	for salt := range 30000 {
		p := anyProg(salt)
		for _, s := range p.S {
			want, e := termsOf(s, p.D)
			wantTerms(t, s, p.D, texts(want), e)
			seen[e]++
			sizes, _ := shape.Sizes(s, p.D...)
			for _, x := range want {
				if got := terms.Dims(x, sizes...); !slices.Equal(got, dimsOf(x, sizes)) {
					t.Errorf("Dims of %q: got %v", text(x), got)
				}
				if got := terms.Work(x); got != workOf(x) {
					t.Errorf("Work of %q: got %d", text(x), got)
				}
				summed += len(x.Sum)
			}
			if len(want) > 1 {
				left++
			}
		}
	}
	for e, most := range map[api.Errno]int{api.OK: 9000, api.ErrLarge: 200, api.ErrShape: 1000, api.ErrName: 500} {
		if seen[e] < most {
			t.Errorf("error %d came %d times alone: the statements are not such as they should be", e, seen[e])
		}
	}
	if summed < 10000 || left < 3000 {
		t.Errorf("%d sums, and %d statements of several terms alone", summed, left)
	}
}

// P12.4, and P12.3 of what is not much.

func TestMultipliedOutAStatementMeansTheSame(t *testing.T) {
	b, both := given(), 0
	for salt := range 12000 {
		p := anyProg(salt)
		for _, s := range p.S {
			l, e := terms.Terms(s, p.D...)
			x, f := mean.Stmt(s, p.D, b...)
			if e == api.OK {
				e = f
			}
			if e != api.OK {
				wantMean(t, s, p.D, b, api.Dense{}, e)
				continue
			}
			both++
			wantMean(t, s, p.D, b, x, api.OK)
			if much(l, len(x.V)) < 30000 {
				x, e = meanOf(s, p.D, b)
				wantMean(t, s, p.D, b, x, e)
			}
		}
	}
	if both < 8000 {
		t.Errorf("%d alone mean something", both)
	}
}

// anyTerm is one, be it such as comes of a statement or not, with places of its indices.
func anyTerm(p *picks) (api.Term, []api.Dim) {
	x := api.Term{K: int64(p.below(7) - 3)}
	names := []string{"i", "j", "k", "0", "1", "2"}
	for range p.below(4) {
		f := api.Factor{Name: p.of("a", "b", "c", "q", "s", "x", "a", "b", "c", "q", "y", "e", "bad")}
		rank := map[string]int{"a": 1, "b": 2, "c": 1, "q": 2, "x": 4, "e": 1, "bad": 1}[f.Name]
		if p.below(20) == 0 {
			rank = p.below(6)
		}
		for range rank {
			f.Index = append(f.Index, p.of(names...))
		}
		x.F = append(x.F, f)
	}
	for range p.below(4) {
		x.Sum = append(x.Sum, api.Dim{Name: p.of(names[2:]...), Size: []int{2, 2, 1, 3, 0, -1, 2, 2, 1 << 21, 1 << 62}[p.below(8+p.below(3))]})
	}
	var at []api.Dim
	for range 2 + p.below(8) {
		at = append(at, api.Dim{Name: p.of(names...), Size: []int{0, 1, 0, 1, 2, -1, 1, 0}[p.below(8)]})
	}
	return x, at
}

func TestAllOfManyTerms(t *testing.T) {
	b := append(given(), laid("bad", []int{2}, 1, 2, 3), laid("a", []int{2}, math.MinInt64, -7))
	seen := map[api.Errno]int{}
	for salt := range 40000 {
		p := picks(salt)
		x, at := anyTerm(&p)
		sizes := dims(p.of("", "i:2 j:2 k:3", "i:2 i:5 0:7 j:0", "k:-3 2:1 1:4 k:9"))
		if got := terms.Dims(x, sizes...); !slices.Equal(got, dimsOf(x, sizes)) {
			t.Errorf("Dims of %q, sizes %v: got %v; want %v", text(x), sizes, got, dimsOf(x, sizes))
		}
		work := workOf(x)
		if got := terms.Work(x); got != work {
			t.Errorf("Work of %q: got %d; want %d", text(x), got, work)
		}
		if work > 30000 && work <= api.MaxWork {
			continue
		}
		want, e := valueOf(x, at, b)
		wantValue(t, x, at, b, want, e)
		seen[e]++
		y, _ := anyTerm(&p)
		if terms.Same(x, y) != (text(x) == text(y)) || !terms.Same(x, term(text(x))) {
			t.Errorf("Same of %q and %q", text(x), text(y))
		}
	}
	for _, e := range []api.Errno{api.OK, api.ErrArg, api.ErrLarge, api.ErrRange, api.ErrName} {
		if seen[e] < 400 {
			t.Errorf("error %d came %d times alone: the terms are not such as they should be", e, seen[e])
		}
	}
}

// R2

// memory is what lists stand in.
type memory map[any]struct{}

// own notes a list, with the room behind it, and tells whether none that is noted shares it.
func own[T any](m memory, l []T) bool {
	for k := range l[:cap(l)] {
		at := any(&l[:cap(l)][k])
		if _, was := m[at]; was {
			return false
		}
		m[at] = struct{}{}
	}
	return true
}

// nodes notes a node's lists.
func (m memory) nodes(n api.Node) {
	own(m, n.Index)
	own(m, n.L)
	for _, part := range n.L {
		m.nodes(part)
	}
}

// prog notes a program's lists.
func (m memory) prog(p api.Prog) {
	own(m, p.D)
	for _, d := range p.D {
		own(m, d.Shape)
	}
	for _, s := range p.S {
		own(m, s.Index)
		m.nodes(s.E)
	}
}

// terms notes terms' lists, and tells whether each one is their own.
func (m memory) terms(l []api.Term) bool {
	is := own(m, l)
	for _, x := range l {
		is = own(m, x.F) && own(m, x.Sum) && is
		for _, f := range x.F {
			is = own(m, f.Index) && is
		}
	}
	return is
}

// given notes the lists of tensors, and tells likewise.
func (m memory) given(l []api.Bound) bool {
	is := own(m, l)
	for _, x := range l {
		is = own(m, x.D.Shape) && own(m, x.D.V) && is
	}
	return is
}

// fill writes into a list, and behind its end.
func fill[T any](l []T, x T) {
	for k := range l[:cap(l)] {
		l[:cap(l)][k] = x
	}
}

// spoil writes into all lists of terms.
func spoil(l []api.Term) {
	for _, x := range l {
		for _, f := range x.F {
			fill(f.Index, "spoilt")
		}
		fill(x.F, api.Factor{Name: "spoilt"})
		fill(x.Sum, api.Dim{Name: "spoilt", Size: 77})
	}
	fill(l, api.Term{K: 77})
}

func TestNothingHandedInIsChangedOrShared(t *testing.T) {
	for salt := range 4000 {
		p, b := anyProg(salt), given()[:8]
		for _, s := range p.S {
			m := memory{}
			m.prog(p)
			m.given(b)
			l, _ := terms.Terms(s, p.D...)
			want := texts(l)
			if !m.terms(l) {
				t.Fatalf("Terms of %v: two lists share what they have", s)
			}
			x, e := terms.Mean(s, p.D, b...)
			if !m.given([]api.Bound{{D: x}}) {
				t.Fatalf("Mean of %v: it shares what it has", s)
			}
			v := slices.Clone(x.V)
			spoil(l)
			fill(x.Shape, 77)
			fill(x.V, 77)
			if q := anyProg(salt); !notation.Equal(p, q) || !slices.EqualFunc(b, given()[:8], sameBound) {
				t.Fatalf("changed, or written to by who wrote to what was answered: got %v and %v", p, b)
			}
			// Nor does what was told before count, written to as it is.
			if again, _ := terms.Terms(s, p.D...); !slices.Equal(texts(again), want) {
				t.Fatalf("Terms of %v: got %v; want %v", s, texts(again), want)
			}
			if again, f := terms.Mean(s, p.D, b...); !slices.Equal(again.V, v) || e != f {
				t.Fatalf("Mean of %v: got %v, error %d; want %v, error %d", s, again, f, v, e)
			}
		}
	}
}

// sameBound tells whether two tensors are given likewise.
func sameBound(a, b api.Bound) bool {
	return a.Name == b.Name && slices.Equal(a.D.Shape, b.D.Shape) && slices.Equal(a.D.V, b.D.V)
}

func TestNoTermHandedInIsChangedOrShared(t *testing.T) {
	for salt := range 4000 {
		make := func() ([]api.Term, []api.Dim, []api.Dim) {
			p := picks(salt)
			x, at := anyTerm(&p)
			y, sizes := anyTerm(&p)
			// There is room behind the sums, where more stands.
			x.Sum = append(append(x.Sum, dims("i:2 k:3 0:9")...)[:len(x.Sum)], y.Sum[:0]...)
			return []api.Term{x, y}, at, sizes
		}
		l, at, sizes := make()
		was, wasAt, wasSizes := make()
		m := memory{}
		m.terms(l)
		own(m, at)
		own(m, sizes)
		names, all := terms.Tensors(l...), terms.Dims(l[0], sizes...)
		if !own(m, names) || !own(m, all) {
			t.Fatalf("Tensors, or Dims of %q: it shares what it has", text(l[0]))
		}
		if workOf(l[0]) < 30000 {
			terms.Value(l[0], at, given()...)
		}
		terms.Work(l[0])
		terms.Same(l[0], l[1])
		fill(names, "spoilt")
		fill(all, api.Dim{Name: "spoilt"})
		behind := l[0].Sum[:len(l[0].Sum)+3]
		if !slices.Equal(texts(l), texts(was)) || !slices.Equal(at, wasAt) || !slices.Equal(sizes, wasSizes) || !slices.Equal(behind, was[0].Sum[:len(behind)]) {
			t.Fatalf("changed, or written to by who wrote to what was answered: got %v, %v and %v", texts(l), at, sizes)
		}
	}
}

func TestNothingIsKept(t *testing.T) {
	p, b := lines(t, "a[i] = (b[i, k] - 2) * c[k] + s[]"), given()
	l, _ := terms.Terms(p.S[0], p.D...)
	x, _ := terms.Mean(p.S[0], p.D, b...)
	all := terms.Dims(l[0], api.Dim{Name: "i", Size: 2})
	want := texts(l)
	for _, d := range p.D {
		fill(d.Shape, 77)
	}
	fill(p.S[0].Index, "spoilt")
	spoilNodes(p.S[0].E)
	for _, y := range b {
		fill(y.D.Shape, 77)
		fill(y.D.V, 77)
	}
	if !slices.Equal(texts(l), want) || !slices.Equal(x.V, []int64{27 - 46 - 4, 21 - 46 - 4}) || !slices.Equal(x.Shape, []int{2}) {
		t.Errorf("got %v and %v, once what was handed in is written to", texts(l), x)
	}
	spoil(l)
	if !slices.Equal(all, dims("i:2 0:3")) {
		t.Errorf("got %v, once what was handed in is written to", all)
	}
}

// spoilNodes writes into all indices of a node.
func spoilNodes(n api.Node) {
	fill(n.Index, "spoilt")
	for _, part := range n.L {
		spoilNodes(part)
	}
}

func TestSumsAreNamedByTheirNumbers(t *testing.T) {
	for salt := range 6000 {
		p := anyProg(salt)
		for _, s := range p.S {
			l, _ := terms.Terms(s, p.D...)
			for _, x := range l {
				var names []string
				for k := range x.Sum {
					names = append(names, strconv.Itoa(k))
				}
				names = append(names, s.Index...)
				for _, f := range x.F {
					for _, i := range f.Index {
						if !slices.Contains(names, i) {
							t.Errorf("%q has %s, which is neither a sum nor one of the target's", text(x), i)
						}
					}
				}
			}
		}
	}
}
