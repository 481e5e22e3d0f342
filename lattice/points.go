package lattice

import (
	"slices"

	"purfle/api"
)

// needs tells which tensors must have a place of an index: those that have not all places, and have the index.
func needs(index string, sparse []string) func(r api.Node) bool {
	known := map[string]struct{}{}
	for _, name := range sparse {
		known[name] = struct{}{}
	}
	return func(r api.Node) bool {
		_, is := known[r.Name]
		return is && slices.Contains(r.Index, index)
	}
}

// reckoning is how an expression comes to something, part by part: what is of no tensor; what a tensor is, of its number; what two parts are, of which one is enough, and of which both must be.
type reckoning[T any] struct {
	index        string
	free         T
	tensor       func(r api.Node, number int) T
	either, both func(a, b T) T
	passed       int
}

// of is what an expression that may be comes to.
func (k *reckoning[T]) of(n api.Node) T {
	// All parts are gone through, whatever comes of it, as their tensors are numbered on the way.
	parts := each(n.L, k.of)
	switch n.Op {
	case api.RefN:
		number := k.passed
		k.passed++
		return k.tensor(n, number)
	case api.AddN, api.SubN:
		return k.either(parts[0], parts[1])
	case api.MulN:
		return k.both(parts[0], parts[1])
	case api.NegN:
		return parts[0]
	case api.SumN:
		if n.Name != k.index {
			return parts[0]
		}
	}
	return k.free
}

// points are those of an expression that may be, and whether there are not too many at any part.
func points(n api.Node, index string, must func(r api.Node) bool) ([][]int, bool) {
	fit := true
	tidy := func(l [][]int) [][]int {
		if fit = fit && len(l) <= api.MaxPoints; !fit {
			return nil
		}
		return Tidy(l...)
	}
	free := [][]int{nil}
	k := reckoning[[][]int]{index: index, free: free}
	k.tensor = func(r api.Node, number int) [][]int {
		if !must(r) {
			return free
		}
		return [][]int{{number}}
	}
	k.either = func(a, b [][]int) [][]int { return tidy(slices.Concat(a, b)) }
	k.both = func(a, b [][]int) [][]int { return tidy(together(a, b)) }
	l := k.of(n)
	return l, fit
}

// together are each of some sets with each of others.
func together(a, b [][]int) [][]int {
	var l [][]int
	for _, x := range a {
		for _, y := range b {
			l = append(l, slices.Concat(x, y))
		}
	}
	return l
}

// holds tells whether an expression that may be can be anything, without the tensors that are missing.
func holds(n api.Node, index string, must func(r api.Node) bool, missing func(number int) bool) bool {
	k := reckoning[bool]{index: index, free: true}
	k.tensor = func(r api.Node, number int) bool { return !must(r) || !missing(number) }
	k.either = func(a, b bool) bool { return a || b }
	k.both = func(a, b bool) bool { return a && b }
	return k.of(n)
}

// isNone tells of numbers whether they are none of a list.
func isNone(l []int) func(n int) bool {
	known := map[int]struct{}{}
	for _, n := range l {
		known[n] = struct{}{}
	}
	return func(n int) bool {
		_, is := known[n]
		return !is
	}
}

// rising is a set, in memory of its own: each number once, from the least on.
func rising(set []int) []int {
	own := slices.Clone(set)
	slices.Sort(own)
	return slices.Compact(own)
}

// least are those of sets in which no other one stands; each is there once, and those that are shorter come first.
func least(sets [][]int) [][]int {
	if len(sets) > 0 && len(sets[0]) == 0 {
		return sets[:1:1]
	}
	var l [][]int
	// One that stands in a set has its least number there: only such are looked at.
	by := map[int][][]int{}
	for _, set := range sets {
		stands := func(x []int) bool { return len(x) < len(set) && inside(x, set) }
		if slices.ContainsFunc(set, func(n int) bool { return slices.ContainsFunc(by[n], stands) }) {
			continue
		}
		by[set[0]] = append(by[set[0]], set)
		l = append(l, set)
	}
	return l
}

// inside tells whether all numbers of a rising set stand in another one.
func inside(a, b []int) bool {
	for _, n := range a {
		at, is := slices.BinarySearch(b, n)
		if !is {
			return false
		}
		b = b[at+1:]
	}
	return true
}
