package mean

import (
	"slices"

	"purfle/api"
	"purfle/box"
	"purfle/notation"
	"purfle/shape"
)

// reader reads expressions, cell by cell: of tensors that are given, of indices that have sizes, and that are at places.
type reader struct {
	given map[string]api.Dense
	size  map[string]int
	at    map[string]int
}

// open is a reader whose indices are at no places.
func open(sizes []api.Dim, b []api.Bound) *reader {
	r := &reader{given: map[string]api.Dense{}, size: sizesOf(sizes), at: map[string]int{}}
	for _, x := range b {
		r.given[x.Name] = x.D
	}
	return r
}

// goes tells whether all tensors of an expression are given, as they are told.
func (r *reader) goes(n api.Node, d []api.Decl) api.Errno {
	for _, ref := range notation.Refs(n) {
		t, is := r.given[ref.Name]
		if !is {
			return api.ErrName
		}
		told, _ := shape.Tensor(ref.Name, d...)
		if box.Check(t) != api.OK || !slices.Equal(t.Shape, told.Shape) {
			return api.ErrShape
		}
	}
	return api.OK
}

// fill puts into each cell of a tensor what an expression is there.
func (r *reader) fill(t api.Dense, index []string, n api.Node) api.Errno {
	for k := range t.V {
		c, e := box.Coord(t.Shape, k)
		if e != api.OK {
			return e
		}
		for mode, i := range index {
			r.at[i] = c[mode]
		}
		if t.V[k], e = r.value(n); e != api.OK {
			return e
		}
	}
	return api.OK
}

// value is what an expression is, where its indices are at; as sums may have been put around its terms, it may be deeper than one that may be.
func (r *reader) value(n api.Node) (int64, api.Errno) {
	switch n.Op {
	case api.NumN:
		return n.N, api.OK
	case api.RefN:
		return r.cell(n)
	case api.SumN:
		return r.sum(n)
	}
	a, e := r.value(n.L[0])
	if e != api.OK {
		return 0, e
	}
	if n.Op == api.NegN {
		return -a, api.OK
	}
	b, e := r.value(n.L[1])
	if e != api.OK {
		return 0, e
	}
	switch n.Op {
	case api.AddN:
		return a + b, api.OK
	case api.SubN:
		return a - b, api.OK
	}
	return a * b, api.OK
}

// cell is the number of a tensor's cell.
func (r *reader) cell(n api.Node) (int64, api.Errno) {
	t, is := r.given[n.Name]
	if !is {
		return 0, api.ErrName
	}
	c := make([]int, 0, api.MaxRank)
	for _, i := range n.Index {
		at, told := r.at[i]
		if !told {
			return 0, api.ErrName
		}
		c = append(c, at)
	}
	return box.Get(t, c...)
}

// sum is the sum of a part over all places of an index.
func (r *reader) sum(n api.Node) (int64, api.Errno) {
	outer, was := r.at[n.Name]
	var all int64
	for at := range r.size[n.Name] {
		r.at[n.Name] = at
		v, e := r.value(n.L[0])
		if e != api.OK {
			return 0, e
		}
		all += v
	}
	// Behind the sum its index is where it was: what comes next may have it too.
	delete(r.at, n.Name)
	if was {
		r.at[n.Name] = outer
	}
	return all, api.OK
}
