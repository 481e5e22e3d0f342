package mean

import (
	"slices"

	"purfle/api"
)

// sizesOf are the sizes of indices, none below 0: of one told several times the first counts.
func sizesOf(sizes []api.Dim) map[string]int {
	size := map[string]int{}
	for _, x := range slices.Backward(sizes) {
		size[x.Name] = max(x.Size, 0)
	}
	return size
}

// part is a node, and how often its work is done.
type part struct {
	n     *api.Node
	times int
}

// workOf adds up how often each node is come to. A node is added as it is found, ahead of what is below it, and not by a function that calls itself: one that stands in itself has no bottom.
func workOf(n *api.Node, size map[string]int) int {
	work := 1
	found := []part{{n, 1}}
	for len(found) > 0 {
		x := found[len(found)-1]
		found = found[:len(found)-1]
		if x.n.Op == api.SumN {
			x.times = times(x.times, size[x.n.Name])
		}
		// What is below a sum over no places is not gone to: it may have no bottom either.
		if x.times == 0 {
			continue
		}
		if work += x.times * len(x.n.L); work > api.MaxWork {
			return api.MaxWork + 1
		}
		for k := range x.n.L {
			found = append(found, part{&x.n.L[k], x.times})
		}
	}
	return work
}

// times is a product, of which no more counts than that it is too much: it might go around.
func times(a, b int) int {
	return min(a*min(b, api.MaxWork+1), api.MaxWork+1)
}
