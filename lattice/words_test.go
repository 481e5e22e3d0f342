package lattice_test

import (
	"slices"
	"strings"

	"purfle/api"
	"purfle/notation"
	"purfle/shape"
)

// What the chapter's words say, told another way than the program does: an expression has a number of ways to be something; its points are, of all sets of tensors, the ones that leave it one, but none any more if a tensor of theirs is taken off; how many there are is reckoned without them; indices are held against each other two by two.

// asked is of which index, of which tensors that have not all places, and which of them are there.
type asked struct {
	index  string
	sparse []string
	there  []int
}

// must tells whether a tensor must have a place.
func (q asked) must(r api.Node) bool {
	return slices.Contains(q.sparse, r.Name) && slices.Contains(r.Index, q.index)
}

// tensorsIn is how many an expression has.
func tensorsIn(n api.Node) int {
	if n.Op == api.RefN {
		return 1
	}
	many := 0
	for _, part := range n.L {
		many += tensorsIn(part)
	}
	return many
}

// waysOf is how many ways an expression has to be something; its tensors are numbered from a number on.
func waysOf(n api.Node, from int, q asked) float64 {
	switch n.Op {
	case api.NumN:
		return 1
	case api.RefN:
		if q.must(n) && !slices.Contains(q.there, from) {
			return 0
		}
		return 1
	case api.NegN:
		return waysOf(n.L[0], from, q)
	case api.SumN:
		if n.Name == q.index {
			return 1
		}
		return waysOf(n.L[0], from, q)
	}
	a, b := waysOf(n.L[0], from, q), waysOf(n.L[1], from+tensorsIn(n.L[0]), q)
	if n.Op == api.MulN {
		return a * b
	}
	return a + b
}

// holdsOf tells whether an expression holds.
func holdsOf(n api.Node, q asked) bool { return notation.May(n) && waysOf(n, 0, q) > 0 }

// manyOf is how many points an expression has, whether the empty set is one, and whether there are too many at a part.
func manyOf(n api.Node, q asked) (many int, free, large bool) {
	switch n.Op {
	case api.NumN:
		return 1, true, false
	case api.RefN:
		return 1, !q.must(n), false
	case api.NegN:
		return manyOf(n.L[0], q)
	case api.SumN:
		many, free, large = manyOf(n.L[0], q)
		if n.Name == q.index {
			return 1, true, large
		}
		return many, free, large
	}
	a, freeA, largeA := manyOf(n.L[0], q)
	b, freeB, largeB := manyOf(n.L[1], q)
	large = largeA || largeB
	if n.Op == api.MulN {
		return a * b, freeA && freeB, large || a*b > 256
	}
	if freeA || freeB {
		return 1, true, large || a+b > 256
	}
	return a + b, false, large || a+b > 256
}

// chosen goes through all ways to choose so many of some numbers, in order.
func chosen(of []int, many int, set []int, f func(set []int)) {
	if many == 0 {
		f(set)
		return
	}
	for k, n := range of {
		chosen(of[k+1:], many-1, append(slices.Clone(set), n), f)
	}
}

// pointsOf are an expression's points.
func pointsOf(n api.Node, q asked) ([][]int, api.Errno) {
	if !notation.May(n) {
		return nil, api.ErrArg
	}
	if _, _, large := manyOf(n, q); large {
		return nil, api.ErrLarge
	}
	var must []int
	for k, r := range notation.Refs(n) {
		if q.must(r) {
			must = append(must, k)
		}
	}
	holds := func(set []int) bool { return waysOf(n, 0, asked{q.index, q.sparse, set}) > 0 }
	var l [][]int
	for many := range len(must) + 1 {
		chosen(must, many, nil, func(set []int) {
			for k := range set {
				if holds(slices.Delete(slices.Clone(set), k, k+1)) {
					return
				}
			}
			if holds(set) {
				l = append(l, set)
			}
		})
	}
	return l, api.OK
}

// setOf is a set's numbers, rising: each time the least one that is greater than the one ahead.
func setOf(l []int) []int {
	var set []int
	for {
		next, is := 0, false
		for _, n := range l {
			if (len(set) == 0 || n > set[len(set)-1]) && (!is || n < next) {
				next, is = n, true
			}
		}
		if !is {
			return set
		}
		set = append(set, next)
	}
}

// allIn tells whether all numbers of a list are in another one.
func allIn(a, b []int) bool {
	for _, n := range a {
		if !slices.Contains(b, n) {
			return false
		}
	}
	return true
}

// mayOf tells whether one of some sets has none but numbers that are there.
func mayOf(l [][]int, there []int) bool {
	for _, set := range l {
		if allIn(set, there) {
			return true
		}
	}
	return false
}

// ahead tells whether a tidy set comes ahead of another one.
func ahead(a, b []int) bool {
	if len(a) != len(b) {
		return len(a) < len(b)
	}
	for k := range a {
		if a[k] != b[k] {
			return a[k] < b[k]
		}
	}
	return false
}

// tidyOf are sets, tidy: each stands behind as many as come ahead of it.
func tidyOf(l [][]int) [][]int {
	var kept [][]int
	for k, a := range l {
		stands := false
		for m, b := range l {
			stands = stands || m != k && allIn(b, a) && (!allIn(a, b) || m < k)
		}
		if !stands {
			kept = append(kept, setOf(a))
		}
	}
	tidy := make([][]int, len(kept))
	for _, a := range kept {
		place := 0
		for _, b := range kept {
			if ahead(b, a) {
				place++
			}
		}
		tidy[place] = a
	}
	return tidy
}

// modesOf are a tensor's modes: those whose names begin so go from the last one on.
func modesOf(d api.Decl) ([]int, api.Errno) {
	if e := notation.Check(api.Prog{D: []api.Decl{d}}); e != api.OK {
		return nil, api.ErrArg
	}
	if _, e := shape.Form(d); e != api.OK {
		return nil, e
	}
	if strings.HasSuffix(d.Form, "csc") {
		return []int{1, 0}, api.OK
	}
	return []int{0, 1, 2, 3}[:len(d.Shape)], api.OK
}

// comesOf are, of a term's tensors, each two indices that stand in one, the one that comes ahead first; or whether a tensor is none.
func comesOf(t api.Term, d []api.Decl) (map[[2]string]bool, bool) {
	comes := map[[2]string]bool{}
	for _, f := range t.F {
		at := slices.IndexFunc(d, func(x api.Decl) bool { return x.Name == f.Name })
		if at < 0 {
			return nil, false
		}
		modes, e := modesOf(d[at])
		if e != api.OK || len(modes) != len(f.Index) {
			return nil, false
		}
		for a := range modes {
			for b := a + 1; b < len(modes); b++ {
				comes[[2]string{f.Index[modes[a]], f.Index[modes[b]]}] = true
			}
		}
	}
	return comes, true
}

// indicesOf are a term's indices, those of first ahead.
func indicesOf(t api.Term, first []string) []string {
	var l, own []string
	for _, f := range t.F {
		own = append(own, f.Index...)
	}
	for _, i := range append(slices.Clone(first), own...) {
		if slices.Contains(own, i) && !slices.Contains(l, i) {
			l = append(l, i)
		}
	}
	return l
}

// orderOf is the order of a term's indices: each time the first one that may come.
func orderOf(t api.Term, first []string, d []api.Decl) ([]string, api.Errno) {
	comes, is := comesOf(t, d)
	if !is {
		return nil, api.ErrNone
	}
	left := indicesOf(t, first)
	var order []string
	for len(left) > 0 {
		next := slices.IndexFunc(left, func(i string) bool {
			return !slices.ContainsFunc(left, func(other string) bool { return other != i && comes[[2]string{other, i}] })
		})
		if next < 0 {
			return nil, api.ErrArg
		}
		order = append(order, left[next])
		left = slices.Delete(left, next, next+1)
	}
	return order, api.OK
}
