package shape_test

import (
	"slices"
	"testing"

	"purfle/api"
	"purfle/notation"
	"purfle/shape"
)

// world is what expressions are made of: tensors, and indices of which each mostly goes with modes of one size.
type world struct {
	d    []api.Decl
	next func(below int) int
	// Of so many picks one is any, be it right or wrong.
	wrong int
}

// sizeOf is the size with which an index goes.
func sizeOf(index string) int {
	return map[string]int{"i": 2, "j": 3, "k": 4, "l": 0, "a": 2, "b": 3, "c": 4}[index]
}

// anyWorld has up to seven tensors, of which, if anything may be wrong, one may be told badly.
func anyWorld(salt, wrong int) world {
	w := world{next: counted(salt), wrong: wrong}
	names := []string{"a", "b", "c", "d", "i", "j", "s"}
	for k := range 1 + w.next(7) {
		d := api.Decl{Name: names[k], Form: []string{"dense", "csf"}[w.next(2)]}
		for range w.next(5) {
			d.Shape = append(d.Shape, []int{2, 3, 4, 0}[w.next(4)])
		}
		if len(d.Shape) == 2 {
			d.Form = []string{"csr", "csc", "dcsr", "dcsc", "coo", "bsr"}[w.next(6)]
			d.Block = 1
		}
		w.d = append(w.d, d)
	}
	if w.any(5) {
		d := &w.d[w.next(len(w.d))]
		switch w.next(5) {
		case 0:
			d.Name = w.d[0].Name
		case 1:
			d.Form = "bsr"
			d.Block = w.next(4) - 1
		case 2:
			d.Name = []string{"", "sum", "A"}[w.next(3)]
		case 3:
			d.Shape = append(d.Shape, 1<<31+w.next(2))
		case 4:
			d.Form = []string{"csr", "none", "?"}[w.next(3)]
		}
	}
	return w
}

// any tells whether the next pick is any.
func (w world) any(more int) bool { return w.wrong > 0 && w.next(w.wrong*more) == 0 }

// index is one that goes with a mode of that size.
func (w world) index(size int) string {
	l := []string{"i", "j", "k", "l", "a", "b", "c"}
	if !w.any(4) {
		l = slices.DeleteFunc(l, func(i string) bool { return sizeOf(i) != size })
	}
	if len(l) == 0 {
		return "i"
	}
	return l[w.next(len(l))]
}

// ref is a tensor at indices, as a node.
func (w world) ref() api.Node {
	d := w.d[w.next(len(w.d))]
	n := ref(d.Name)
	for _, size := range d.Shape {
		n.Index = append(n.Index, w.index(size))
	}
	if w.any(8) {
		n.Index = n.Index[:w.next(len(n.Index)+1)]
	}
	if w.any(8) {
		n.Name = []string{"a", "b", "none"}[w.next(3)]
	}
	return n
}

// node is an expression of at most so many nodes.
func (w world) node(most int) api.Node {
	kind := w.next(9)
	switch {
	case most > 2 && kind < 5:
		left := 1 + w.next(most-2)
		op := []int{api.AddN, api.SubN, api.MulN, api.MulN, api.AddN}[kind]
		return api.Node{Op: op, L: []api.Node{w.node(left), w.node(most - 1 - left)}}
	case most > 1 && kind == 5:
		return neg(w.node(most - 1))
	case most > 1 && kind == 6:
		return w.sum(w.node(most - 1))
	case kind == 7:
		return num(int64(w.next(4)))
	}
	return w.ref()
}

// sum is a sum over one of a part's indices, if it has one.
func (w world) sum(n api.Node) api.Node {
	var l []string
	for _, r := range refs(n) {
		l = append(l, r.Index...)
	}
	if w.any(8) {
		l = []string{"i", "j", "k", "z"}
	}
	if len(l) == 0 {
		return neg(n)
	}
	return sum(l[w.next(len(l))], n)
}

// stmt is one, whose target mostly has no index twice.
func (w world) stmt(most int) api.Stmt {
	t := w.ref()
	for k := range t.Index {
		for range 8 {
			if slices.Contains(t.Index[:k], t.Index[k]) && !w.any(4) {
				t.Index[k] = w.index(sizeOf(t.Index[k]))
			}
		}
	}
	return stmt(t.Name, t.Index, w.node(most))
}

// prog is a program of up to so many statements.
func (w world) prog(lines, most int) api.Prog {
	p := api.Prog{D: w.d}
	for range w.next(lines + 1) {
		p.S = append(p.S, w.stmt(1+w.next(most)))
	}
	return p
}

func TestAllOfManyPrograms(t *testing.T) {
	seen := map[api.Errno]int{}
	for salt := range 6000 {
		p := anyWorld(salt, []int{0, 1, 2, 4, 12}[salt%5]).prog(4, 14)
		n, e := declsOf(p.D)
		wantDecls(t, n, e, p.D...)
		for _, s := range p.S {
			l, e := sizesOf(s, p.D)
			wantSizes(t, s, p.D, l, e)
			if mayStmt(s) {
				wantNormal(t, s, normalOf(s.E, s.Index))
			}
		}
		for _, d := range p.D {
			wantForm(t, d)
		}
		n, e = programOf(p)
		wantProgram(t, p, n, e)
		if e == api.OK {
			wantNames(t, p, inputsOf(p), outputsOf(p))
		}
		seen[e]++
	}
	for _, e := range []api.Errno{api.OK, api.ErrArg, api.ErrLarge, api.ErrShape, api.ErrNone, api.ErrName, api.ErrRank} {
		if seen[e] < 20 {
			t.Errorf("error %d came %d times alone: the programs are not such as they should be", e, seen[e])
		}
	}
}

// P10.5

func TestWhatFollows(t *testing.T) {
	many := 0
	for salt := range 3000 {
		p := anyWorld(salt, 0).prog(4, 20)
		for _, s := range p.S {
			n, e := shape.Normal(s)
			if e != api.OK {
				continue
			}
			for _, i := range notation.Free(n) {
				if !slices.Contains(s.Index, i) {
					t.Errorf("%s is free in %v", i, n)
				}
			}
			if notation.May(n) {
				many++
				wantNormal(t, stmt(s.Name, s.Index, n), n)
			}
			wantSizesOfPlaces(t, s, p.D)
		}
	}
	if many < 1000 {
		t.Errorf("%d alone were normal", many)
	}
}

// wantSizesOfPlaces wants that sizes are those of each place where an index stands.
func wantSizesOfPlaces(t *testing.T, s api.Stmt, d []api.Decl) {
	t.Helper()
	l, e := shape.Sizes(s, d...)
	if e != api.OK {
		return
	}
	stands := map[api.Dim]int{}
	for _, r := range append(refs(s.E), ref(s.Name, s.Index...)) {
		x, _ := shape.Tensor(r.Name, d...)
		for m, i := range r.Index {
			stands[api.Dim{Name: i, Size: x.Shape[m]}]++
		}
	}
	if len(stands) != len(l) {
		t.Errorf("Sizes of %v: got %v; want %v", s, l, stands)
	}
	for _, x := range l {
		if stands[x] == 0 {
			t.Errorf("Sizes of %v: got %v; want %v", s, l, stands)
		}
	}
}

// R2

// spots are where all elements of an expression's lists stand, also those behind their ends.
func spots(n api.Node) []any {
	var l []any
	for k := range n.Index[:cap(n.Index)] {
		l = append(l, &n.Index[:cap(n.Index)][k])
	}
	for k := range n.L[:cap(n.L)] {
		part := &n.L[:cap(n.L)][k]
		l = append(append(l, part), spots(*part)...)
	}
	return l
}

// wantOwn wants that no two lists of some expressions stand at one spot.
func wantOwn(t *testing.T, what string, n ...api.Node) {
	t.Helper()
	seen := map[any]int{}
	for _, at := range spots(api.Node{L: slices.Clip(n)}) {
		if seen[at]++; seen[at] > 1 {
			t.Fatalf("%s: two lists share what they have", what)
		}
	}
}

// fill writes into a list, also behind its end; spoil into all lists of an expression.
func fill[T any](l []T, x T) {
	for k := range l[:cap(l)] {
		l[:cap(l)][k] = x
	}
}

func spoil(n api.Node) {
	for _, part := range n.L[:cap(n.L)] {
		spoil(part)
	}
	fill(n.L, api.Node{Op: 77, N: 77, Name: "other"})
	fill(n.Index, "other")
}

// spoilAll writes into all lists that the calls answer of a program.
func spoilAll(t *testing.T, p api.Prog) {
	t.Helper()
	for _, d := range p.D {
		x, _ := shape.Tensor(d.Name, p.D...)
		fill(x.Shape, 77)
		f, _ := shape.Form(d)
		fill(f, api.Spec{Kind: 77})
	}
	for _, s := range p.S {
		l, _ := shape.Sizes(s, p.D...)
		fill(l, api.Dim{Name: "other", Size: 77})
		n, _ := shape.Normal(s)
		wantOwn(t, "Normal, and what it was handed", n, s.E, api.Node{Index: s.Index})
		spoil(n)
	}
	shape.Program(p)
	shape.Decls(p.D...)
	in, _ := shape.Inputs(p)
	fill(in, "other")
	out, _ := shape.Outputs(p)
	fill(out, "other")
}

func TestNothingHandedInIsChangedOrShared(t *testing.T) {
	for salt := range 1000 {
		made := func() api.Prog { return anyWorld(salt, []int{0, 3}[salt%2]).prog(4, 14) }
		p, was := made(), made()
		spoilAll(t, p)
		if !notation.Equal(p, was) {
			t.Fatalf("changed, or written to by who wrote to what was answered: got %v; want %v", p, was)
		}
		// Nor does what was told before count, written to as it is.
		if n, e := programOf(p); e == api.OK {
			wantProgram(t, p, n, e)
			wantNames(t, p, inputsOf(p), outputsOf(p))
			for _, s := range p.S {
				wantNormal(t, s, normalOf(s.E, s.Index))
			}
		}
	}
}

func TestNothingIsKept(t *testing.T) {
	p := prog(t, told+"a[i] = b[i, k] * c[k] - sum(k, b[i, k])")
	s := p.S[0]
	n, _ := shape.Normal(s)
	l, _ := shape.Sizes(s, p.D...)
	x, _ := shape.Tensor("x", p.D...)
	spoil(s.E)
	fill(s.Index, "other")
	for _, d := range p.D {
		fill(d.Shape, 77)
	}
	want, _ := notation.Read("sum(k, b[i, k] * c[k]) - sum(k, b[i, k])")
	if !notation.Same(n, want) || !slices.Equal(l, []api.Dim{{Name: "i", Size: 2}, {Name: "k", Size: 3}}) || !slices.Equal(x.Shape, []int{2, 3, 4, 6}) {
		t.Errorf("got %v, %v and %v, once what was handed in is written to", n, l, x)
	}
}
