package terms

import (
	"slices"
	"strconv"

	"purfle/api"
)

// sizes are how many places indices have.
type sizes map[string]int

// sizesOf are those that are told: of one told several times the first counts.
func sizesOf(dims []api.Dim) sizes {
	z := sizes{}
	for _, x := range slices.Backward(dims) {
		z[x.Name] = x.Size
	}
	return z
}

// terms are those of a normal expression, those of 0 among them, and whether there are not too many at any part.
func (z sizes) terms(n api.Node) ([]api.Term, bool) {
	var parts [][]api.Term
	for _, part := range n.L {
		l, fit := z.terms(part)
		if !fit {
			return nil, false
		}
		parts = append(parts, l)
	}
	l := z.together(n, parts)
	return l, len(l) <= api.MaxTerms && !slices.ContainsFunc(l, func(t api.Term) bool { return len(t.F) > api.MaxFactors })
}

// together are a node's terms, of those of its parts.
func (z sizes) together(n api.Node, parts [][]api.Term) []api.Term {
	switch n.Op {
	case api.NumN:
		return []api.Term{{K: n.N}}
	case api.RefN:
		return []api.Term{{K: 1, F: []api.Factor{{Name: n.Name, Index: n.Index}}}}
	case api.AddN:
		return slices.Concat(parts...)
	case api.SubN:
		return slices.Concat(parts[0], each(parts[1], opposite))
	case api.NegN:
		return each(parts[0], opposite)
	case api.SumN:
		return each(parts[0], over(api.Dim{Name: n.Name, Size: z[n.Name]}))
	}
	var l []api.Term
	for _, t := range parts[0] {
		l = append(l, each(parts[1], times(t))...)
	}
	return l
}

// each is what is made of each of some terms.
func each[T any](l []api.Term, f func(t api.Term) T) []T {
	made := make([]T, len(l))
	for k, t := range l {
		made[k] = f(t)
	}
	return made
}

// opposite is a term, less than 0 as it was more.
func opposite(t api.Term) api.Term {
	t.K = -t.K
	return t
}

// times makes products: those of one term, and another one behind it.
func times(first api.Term) func(second api.Term) api.Term {
	return func(second api.Term) api.Term {
		a, b := numbered(first, 0), numbered(second, len(first.Sum))
		return api.Term{K: a.K * b.K, F: slices.Concat(a.F, b.F), Sum: slices.Concat(a.Sum, b.Sum)}
	}
}

// over makes sums: those of one term, over an index.
func over(d api.Dim) func(t api.Term) api.Term {
	return func(t api.Term) api.Term {
		if !slices.ContainsFunc(t.F, func(f api.Factor) bool { return slices.Contains(f.Index, d.Name) }) {
			t.K *= int64(d.Size)
			return t
		}
		// As a sum is named by where it stands, all of them are numbered anew.
		t.Sum = slices.Concat([]api.Dim{d}, t.Sum)
		return numbered(t, 0)
	}
}

// numbered is a term whose sums are named by their numbers, the first one's told. It is in memory of its own, as a term may come to stand in several.
func numbered(t api.Term, first int) api.Term {
	name := func(i string) string {
		k := slices.IndexFunc(t.Sum, func(x api.Dim) bool { return x.Name == i })
		if k < 0 {
			return i
		}
		return strconv.Itoa(first + k)
	}
	x := api.Term{K: t.K, F: make([]api.Factor, len(t.F)), Sum: make([]api.Dim, len(t.Sum))}
	for k, f := range t.F {
		x.F[k] = api.Factor{Name: f.Name, Index: make([]string, len(f.Index))}
		for m, i := range f.Index {
			x.F[k].Index[m] = name(i)
		}
	}
	for k, d := range t.Sum {
		x.Sum[k] = api.Dim{Name: name(d.Name), Size: d.Size}
	}
	return x
}
