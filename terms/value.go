package terms

import (
	"slices"

	"purfle/api"
	"purfle/box"
)

// spot is where an index is: at a place that is told, or, as places are numbered over several indices at once, at that which a number has for it.
type spot struct {
	at, step, size int
}

// reader reads a term: of tensors that are given, at indices that are somewhere.
type reader struct {
	t     api.Term
	given map[string]api.Dense
	spots map[string]spot
}

// named are the tensors that are given, the last one of each name.
func named(b []api.Bound) map[string]api.Dense {
	given := map[string]api.Dense{}
	for _, x := range b {
		given[x.Name] = x.D
	}
	return given
}

// open is a reader of a term, at indices that are at places told, or go through all of theirs: those ahead of its sums, and these, the last one fastest. Of several of one name the last one counts, be it told or not.
func open(t api.Term, at, ahead []api.Dim, given map[string]api.Dense) reader {
	r := reader{t: t, given: given, spots: map[string]spot{}}
	for _, x := range at {
		r.spots[x.Name] = spot{at: x.Size, step: 1, size: 1}
	}
	through := slices.Concat(ahead, t.Sum)
	step := placesOf(through)
	for _, x := range through {
		size := max(x.Size, 1)
		step /= size
		r.spots[x.Name] = spot{step: step, size: size}
	}
	return r
}

// placesOf is how many places indices have together.
func placesOf(l []api.Dim) int {
	n := 1
	for _, x := range l {
		n *= max(x.Size, 0)
	}
	return n
}

// value is what the term is where the indices ahead of its sums are at the place of a number.
func (r reader) value(ahead int) (int64, api.Errno) {
	if Work(r.t) > api.MaxWork {
		return 0, api.ErrLarge
	}
	var all int64
	places := placesOf(r.t.Sum)
	for n := range places {
		v, e := r.product(ahead*places + n)
		if e != api.OK {
			return 0, e
		}
		all += v
	}
	return all, api.OK
}

// product is what the term is without its sums, at the place of a number.
func (r reader) product(n int) (int64, api.Errno) {
	v := r.t.K
	for _, f := range r.t.F {
		x, e := r.cell(f, n)
		if e != api.OK {
			return 0, e
		}
		v *= x
	}
	return v, api.OK
}

// cell is the number of a tensor's cell there.
func (r reader) cell(f api.Factor, n int) (int64, api.Errno) {
	d, is := r.given[f.Name]
	if !is {
		return 0, api.ErrName
	}
	c := make([]int, 0, api.MaxRank)
	for _, i := range f.Index {
		x, is := r.spots[i]
		if !is {
			return 0, api.ErrName
		}
		c = append(c, x.at+n/x.step%x.size)
	}
	return box.Get(d, c...)
}

// fill puts into each cell of a target what its terms are there, all added.
func fill(target api.Dense, index []string, l []api.Term, given map[string]api.Dense) api.Errno {
	var dims []api.Dim
	for mode, i := range index {
		dims = append(dims, api.Dim{Name: i, Size: target.Shape[mode]})
	}
	readers := each(l, func(t api.Term) reader { return open(t, nil, dims, given) })
	for k := range target.V {
		for _, r := range readers {
			v, e := r.value(k)
			if e != api.OK {
				return e
			}
			target.V[k] += v
		}
	}
	return api.OK
}
