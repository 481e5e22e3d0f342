package shape

import (
	"slices"

	"purfle/api"
	"purfle/notation"
)

// told is what is told of tensors.
type told []api.Decl

// tensor is the first one told by a name, and whether there is one.
func (t told) tensor(name string) (api.Decl, bool) {
	k := slices.IndexFunc(t, func(d api.Decl) bool { return d.Name == name })
	if k < 0 {
		return api.Decl{}, false
	}
	return t[k], true
}

// sizes reads how many places indices have, off the tensors at which they stand.
type sizes struct {
	told
	dims  []api.Dim
	place map[string]int
}

// dims are the indices of a statement that may be, of tensors that may be told.
func dims(s api.Stmt, d []api.Decl) ([]api.Dim, api.Errno) {
	r := sizes{told: d, place: map[string]int{}}
	if e := r.target(s); e != api.OK {
		return nil, e
	}
	for _, n := range notation.Refs(s.E) {
		if e := r.ref(n); e != api.OK {
			return nil, e
		}
	}
	if !summable(s.E) {
		return nil, api.ErrNone
	}
	return r.dims, api.OK
}

// target reads a statement's.
func (r *sizes) target(s api.Stmt) api.Errno {
	shape, e := r.shape(s.Name, s.Index)
	if e != api.OK {
		return e
	}
	if twice(s.Index) {
		return api.ErrName
	}
	return r.read(s.Index, shape)
}

// ref reads a RefN.
func (r *sizes) ref(n api.Node) api.Errno {
	shape, e := r.shape(n.Name, n.Index)
	if e != api.OK {
		return e
	}
	return r.read(n.Index, shape)
}

// shape is that of a tensor that stands at indices.
func (r *sizes) shape(name string, index []string) ([]int, api.Errno) {
	d, is := r.tensor(name)
	if !is {
		return nil, api.ErrName
	}
	if len(d.Shape) != len(index) {
		return nil, api.ErrRank
	}
	return d.Shape, api.OK
}

// read reads indices, one of each mode.
func (r *sizes) read(index []string, shape []int) api.Errno {
	for mode, i := range index {
		at, was := r.place[i]
		if !was {
			r.place[i] = len(r.dims)
			r.dims = append(r.dims, api.Dim{Name: i, Size: shape[mode]})
			continue
		}
		if r.dims[at].Size != shape[mode] {
			return api.ErrShape
		}
	}
	return api.OK
}

// twice tells whether an index stands more than once.
func twice(index []string) bool {
	for k, i := range index {
		if slices.Contains(index[:k], i) {
			return true
		}
	}
	return false
}

// summable tells whether the index of each sum stands in a tensor that is summed.
func summable(n api.Node) bool {
	if n.Op == api.SumN && !slices.ContainsFunc(notation.Refs(n), func(r api.Node) bool { return slices.Contains(r.Index, n.Name) }) {
		return false
	}
	return !slices.ContainsFunc(n.L, func(part api.Node) bool { return !summable(part) })
}
