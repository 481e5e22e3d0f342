package mean_test

import (
	"math/big"
	"slices"
	"strconv"

	"purfle/api"
	"purfle/box"
	"purfle/shape"
)

// What the chapter's words say, told another way than the program does: places are written into an expression in place of its indices, work is reckoned from the parts up, in numbers without bounds, and what is given is looked for each time.

func num(n int64) api.Node { return api.Node{Op: api.NumN, N: n} }

func ref(name string, index ...string) api.Node {
	return api.Node{Op: api.RefN, Name: name, Index: index}
}

func add(a, b api.Node) api.Node { return api.Node{Op: api.AddN, L: []api.Node{a, b}} }
func sub(a, b api.Node) api.Node { return api.Node{Op: api.SubN, L: []api.Node{a, b}} }
func mul(a, b api.Node) api.Node { return api.Node{Op: api.MulN, L: []api.Node{a, b}} }
func neg(a api.Node) api.Node    { return api.Node{Op: api.NegN, L: []api.Node{a}} }
func sum(index string, a api.Node) api.Node {
	return api.Node{Op: api.SumN, Name: index, L: []api.Node{a}}
}

func dim(name string, size int) api.Dim { return api.Dim{Name: name, Size: size} }

func stmt(name string, index []string, n api.Node) api.Stmt {
	return api.Stmt{Name: name, Index: index, E: n}
}

// counted tells numbers from 0 on that look like no order, below a bound.
func counted(salt int) func(below int) int {
	s := uint64(salt)*2862933555777941757 + 3037000493
	return func(below int) int {
		s = s*6364136223846793005 + 1442695040888963407
		return int(s>>33) % below
	}
}

// sizeOf is the size of an index that is told, the first one's.
func sizeOf(index string, sizes []api.Dim) int {
	for _, x := range sizes {
		if x.Name == index {
			return max(x.Size, 0)
		}
	}
	return 0
}

// exactOf is an expression's work, however much that is.
func exactOf(n api.Node, sizes []api.Dim) *big.Int {
	w := big.NewInt(0)
	for _, part := range n.L {
		w.Add(w, exactOf(part, sizes))
	}
	if n.Op == api.SumN {
		w.Mul(w, big.NewInt(int64(sizeOf(n.Name, sizes))))
	}
	return w.Add(w, big.NewInt(1))
}

// workOf is an expression's work.
func workOf(n api.Node, sizes []api.Dim) int {
	if w := exactOf(n, sizes); w.Cmp(big.NewInt(api.MaxWork)) <= 0 {
		return int(w.Int64())
	}
	return api.MaxWork + 1
}

// findOf is the last tensor of a name, and whether there is one.
func findOf(name string, b []api.Bound) (api.Dense, bool) {
	var last api.Dense
	is := false
	for _, x := range b {
		if x.Name == name {
			last, is = x.D, true
		}
	}
	return last, is
}

// put is an expression in which an index is at a place.
func put(n api.Node, index string, at int) api.Node {
	if n.Op == api.SumN && n.Name == index {
		return n
	}
	x := api.Node{Op: n.Op, N: n.N, Name: n.Name}
	for _, i := range n.Index {
		if i == index {
			i = strconv.Itoa(at)
		}
		x.Index = append(x.Index, i)
	}
	for _, part := range n.L {
		x.L = append(x.L, put(part, index, at))
	}
	return x
}

// valueOf is what an expression that may be is.
func valueOf(n api.Node, at, sizes []api.Dim, b []api.Bound) (int64, api.Errno) {
	for k := len(at) - 1; k >= 0; k-- {
		n = put(n, at[k].Name, at[k].Size)
	}
	return placed(n, sizes, b)
}

// placed is what an expression is, into which all places are written.
func placed(n api.Node, sizes []api.Dim, b []api.Bound) (int64, api.Errno) {
	if n.Op == api.NumN {
		return n.N, api.OK
	}
	if n.Op == api.RefN {
		return cellOf(n, b)
	}
	parts := n.L
	if n.Op == api.SumN {
		parts = nil
		for k := range sizeOf(n.Name, sizes) {
			parts = append(parts, put(n.L[0], n.Name, k))
		}
	}
	v := []int64{0}
	for _, part := range parts {
		x, e := placed(part, sizes, b)
		if e != api.OK {
			return 0, e
		}
		v = append(v, x)
	}
	switch n.Op {
	case api.SubN:
		return v[1] - v[2], api.OK
	case api.MulN:
		return v[1] * v[2], api.OK
	case api.NegN:
		return 0 - v[1], api.OK
	}
	for _, x := range v[1:] {
		v[0] += x
	}
	return v[0], api.OK
}

// cellOf is the number of a tensor's cell.
func cellOf(n api.Node, b []api.Bound) (int64, api.Errno) {
	d, is := findOf(n.Name, b)
	var c []int
	for _, i := range n.Index {
		at, e := strconv.Atoi(i)
		is = is && e == nil
		c = append(c, at)
	}
	if !is {
		return 0, api.ErrName
	}
	return box.Get(d, c...)
}

// refs are an expression's RefN's.
func refs(n api.Node) []api.Node {
	if n.Op == api.RefN {
		return []api.Node{n}
	}
	var l []api.Node
	for _, part := range n.L {
		l = append(l, refs(part)...)
	}
	return l
}

// shapeOf is the shape that is told of a tensor.
func shapeOf(name string, d []api.Decl) []int {
	return d[slices.IndexFunc(d, func(d api.Decl) bool { return d.Name == name })].Shape
}

// stmtOf is what a statement's target is to be.
func stmtOf(s api.Stmt, d []api.Decl, b []api.Bound) (api.Dense, api.Errno) {
	sizes, e := shape.Sizes(s, d...)
	if e != api.OK {
		return api.Dense{}, e
	}
	for _, r := range refs(s.E) {
		x, is := findOf(r.Name, b)
		if !is {
			return api.Dense{}, api.ErrName
		}
		if !box.Same(x, x) || !slices.Equal(x.Shape, shapeOf(r.Name, d)) {
			return api.Dense{}, api.ErrShape
		}
	}
	n, _ := shape.Normal(s)
	z, e := box.Zero(shapeOf(s.Name, d)...)
	if e != api.OK || len(z.V) > 0 && workOf(n, sizes) > api.MaxWork/len(z.V) {
		return api.Dense{}, api.ErrLarge
	}
	for k := range z.V {
		c, _ := box.Coord(z.Shape, k)
		var at []api.Dim
		for m, i := range s.Index {
			at = append(at, dim(i, c[m]))
		}
		if z.V[k], e = valueOf(n, at, sizes, b); e != api.OK {
			return api.Dense{}, e
		}
	}
	return z, api.OK
}

// progOf is what a program's targets are.
func progOf(p api.Prog, b []api.Bound) ([]api.Bound, api.Errno) {
	if _, e := shape.Program(p); e != api.OK {
		return nil, e
	}
	var made []api.Bound
	for _, s := range p.S {
		x, e := stmtOf(s, p.D, slices.Concat(b, made))
		if e != api.OK {
			return nil, e
		}
		made = append(made, api.Bound{Name: s.Name, D: x})
	}
	var l []api.Bound
	for k, x := range made {
		if _, was := findOf(x.Name, made[:k]); !was {
			last, _ := findOf(x.Name, made)
			l = append(l, api.Bound{Name: x.Name, D: last})
		}
	}
	return l, api.OK
}

// same tells whether two tensors are, be they such as may be or not.
func same(a, b api.Dense) bool {
	return slices.Equal(a.Shape, b.Shape) && slices.Equal(a.V, b.V)
}

// sameBound tells whether two tensors are given likewise.
func sameBound(a, b api.Bound) bool {
	return a.Name == b.Name && same(a.D, b.D)
}
