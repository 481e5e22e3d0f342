package lattice

import (
	"slices"

	"purfle/api"
	"purfle/shape"
	"purfle/terms"
)

// asStored are a term's tensors: of each its indices, as its levels go.
func asStored(t api.Term, d []api.Decl) ([][]string, api.Errno) {
	modes := map[string][]int{}
	for _, name := range terms.Tensors(t) {
		x, is := shape.Tensor(name, d...)
		l, e := Modes(x)
		if !is || e != api.OK {
			return nil, api.ErrNone
		}
		modes[name] = l
	}
	var l [][]string
	for _, f := range t.F {
		own := modes[f.Name]
		if len(own) != len(f.Index) {
			return nil, api.ErrNone
		}
		l = append(l, each(own, func(mode int) string { return f.Index[mode] }))
	}
	return l, api.OK
}

// indices are those of a term's tensors, each once: those of first, and then the others.
func indices(t api.Term, first []string) []string {
	all := slices.Clone(first)
	left := map[string]struct{}{}
	for _, f := range t.F {
		for _, i := range f.Index {
			all = append(all, i)
			left[i] = struct{}{}
		}
	}
	var l []string
	for _, i := range all {
		if _, is := left[i]; is {
			l = append(l, i)
			delete(left, i)
		}
	}
	return l
}

// behind tells of each index those, by their places, that come ahead of it in one of the tensors.
func behind(l []string, stored [][]string) [][]int {
	place := map[string]int{}
	for k, i := range l {
		place[i] = k
	}
	after := make([][]int, len(l))
	for _, own := range stored {
		for k, i := range own {
			at := place[i]
			for _, ahead := range own[:k] {
				// An index may stand in a tensor more than once, but never comes behind itself.
				if ahead != i {
					after[at] = append(after[at], place[ahead])
				}
			}
		}
	}
	return after
}
