package lower

import (
	"slices"

	"purfle/api"
)

// maxSize is how many places an index has at the most.
const maxSize = 1 << 31

// counted tells whether there are as many tensors, forms and indices as may be.
func counted(t api.Term, index []string, f [][]api.Spec) bool {
	return len(f) == len(t.F) && len(f) <= api.MaxFactors && len(index) <= api.MaxRank &&
		!slices.ContainsFunc(t.F, func(x api.Factor) bool { return len(x.Index) > api.MaxRank })
}

// named tells whether an index of the target stands there once, and one that is summed over once, in a tensor, and not in the target.
func named(t api.Term, index []string) bool {
	for k, i := range index {
		if slices.Contains(index[:k], i) {
			return false
		}
	}
	left := standing(t)
	for _, i := range index {
		delete(left, i)
	}
	for _, d := range t.Sum {
		if _, is := left[d.Name]; !is {
			return false
		}
		delete(left, d.Name)
	}
	return true
}

// standing are the indices that stand in a tensor.
func standing(t api.Term) map[string]struct{} {
	l := map[string]struct{}{}
	for _, x := range t.F {
		for _, i := range x.Index {
			l[i] = struct{}{}
		}
	}
	return l
}

// indices are those that stand in a tensor, those of the target first, and those of the target that stand in none.
func indices(t api.Term, index []string) (inside, outside []string) {
	left := standing(t)
	for _, i := range index {
		if _, is := left[i]; is {
			inside = append(inside, i)
			delete(left, i)
		} else {
			outside = append(outside, i)
		}
	}
	for _, x := range t.F {
		for _, i := range x.Index {
			if _, is := left[i]; is {
				inside = append(inside, i)
				delete(left, i)
			}
		}
	}
	return inside, outside
}

// sized are indices with their sizes, and whether each has one that may be.
func sized(l []string, t api.Term, sizes []api.Dim) ([]api.Dim, bool) {
	known := map[string]int{}
	// From behind, as the first one of a name counts.
	for _, d := range slices.Backward(slices.Concat(t.Sum, sizes)) {
		known[d.Name] = d.Size
	}
	var dims []api.Dim
	for _, i := range l {
		size, is := known[i]
		if !is || size < 0 || size > maxSize {
			return nil, false
		}
		dims = append(dims, api.Dim{Name: i, Size: size})
	}
	return dims, true
}

// behind tells of each index those, by their places, that come ahead of it in a tensor's levels.
func behind(l []string, t api.Term, f [][]api.Spec) [][]int {
	after := make([][]int, len(l))
	for k, x := range t.F {
		for n, s := range f[k] {
			at := slices.Index(l, x.Index[s.Mode])
			for _, ahead := range f[k][:n] {
				// An index may stand in a tensor more than once, but never comes behind itself.
				if from := slices.Index(l, x.Index[ahead.Mode]); from != at {
					after[at] = append(after[at], from)
				}
			}
		}
	}
	return after
}
