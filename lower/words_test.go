package lower_test

import (
	"math/big"
	"slices"

	"purfle/api"
	"purfle/store"
)

// What the chapter's words say, told another way than the program does: indices are counted where they stand, and come one by one, as all pairs let them; bounds are reckoned in numbers of any size; what is pushed is found by going through all places of all indices, and asking each tensor for its entry there.

// call is what is asked: a term, its target's indices, sizes, and its tensors' forms.
type call struct {
	t     api.Term
	index []string
	sizes []api.Dim
	f     [][]api.Spec
}

// many is how often something stands in a list.
func many[T comparable](l []T, x T) int {
	n := 0
	for _, y := range l {
		if x == y {
			n++
		}
	}
	return n
}

// inTensors are the indices of all tensors, as they stand.
func (q call) inTensors() []string {
	var l []string
	for _, x := range q.t.F {
		l = append(l, x.Index...)
	}
	return l
}

// sums are the indices that are summed over.
func (q call) sums() []string {
	var l []string
	for _, d := range q.t.Sum {
		l = append(l, d.Name)
	}
	return l
}

// sizeOf is an index's size, and whether it has one that may be.
func (q call) sizeOf(name string) (int, bool) {
	for _, l := range [][]api.Dim{q.t.Sum, q.sizes} {
		for _, d := range l {
			if d.Name == name {
				return d.Size, d.Size >= 0 && d.Size <= 2147483648
			}
		}
	}
	return 0, false
}

// argsOf tells whether what is asked is such as may be.
func argsOf(q call) bool {
	in, sums := q.inTensors(), q.sums()
	if len(q.f) != len(q.t.F) || len(q.t.F) > 8 || len(q.index) > 4 {
		return false
	}
	for _, x := range q.t.F {
		if len(x.Index) > 4 {
			return false
		}
	}
	for _, i := range sums {
		if many(sums, i) > 1 || many(q.index, i) > 0 || many(in, i) == 0 {
			return false
		}
	}
	for _, i := range slices.Concat(in, q.index) {
		if _, is := q.sizeOf(i); !is || many(q.index, i) > 1 {
			return false
		}
	}
	return true
}

// simpleOf tells whether a form is simple.
func simpleOf(rank int, f []api.Spec) bool {
	var modes []int
	for _, s := range f {
		if (s.Kind != api.DenseL && s.Kind != api.PackedL) || s.Size != 0 {
			return false
		}
		modes = append(modes, s.Mode)
	}
	slices.Sort(modes)
	for k, m := range modes {
		if k != m {
			return false
		}
	}
	return len(f) == rank
}

// listed are the indices that stand in a tensor, those of the target first, and those that stand in none.
func (q call) listed() (inside, outside []string) {
	in := q.inTensors()
	for _, i := range slices.Concat(q.index, in) {
		if many(in, i) == 0 {
			outside = append(outside, i)
		} else if many(inside, i) == 0 {
			inside = append(inside, i)
		}
	}
	return inside, outside
}

// waits tells whether an index may not come yet, as one that comes ahead of it in a tensor's levels has not come.
func (q call) waits(name string, come []string) bool {
	for k, x := range q.t.F {
		for n, s := range q.f[k] {
			for _, ahead := range q.f[k][:n] {
				a, b := x.Index[ahead.Mode], x.Index[s.Mode]
				if b == name && a != b && many(come, a) == 0 {
					return true
				}
			}
		}
	}
	return false
}

// orderOf are a term's indices, ordered.
func orderOf(q call) ([]api.Dim, api.Errno) {
	if !argsOf(q) {
		return nil, api.ErrArg
	}
	for k, x := range q.t.F {
		if !simpleOf(len(x.Index), q.f[k]) {
			return nil, api.ErrShape
		}
	}
	inside, outside := q.listed()
	if len(inside)+len(outside) > 8 {
		return nil, api.ErrLarge
	}
	var come []string
	for range inside {
		k := slices.IndexFunc(inside, func(i string) bool { return many(come, i) == 0 && !q.waits(i, come) })
		if k < 0 {
			return nil, api.ErrNone
		}
		come = append(come, inside[k])
	}
	var l []api.Dim
	for _, i := range append(come, outside...) {
		size, _ := q.sizeOf(i)
		l = append(l, api.Dim{Name: i, Size: size})
	}
	return l, api.OK
}

// boundsOf are the steps and the pushes that there may be.
func boundsOf(q call) (int, int, api.Errno) {
	l, e := orderOf(q)
	if e != api.OK {
		return 0, 0, e
	}
	of := func(n int) *big.Int { return big.NewInt(int64(n)) }
	n, all, greatest, levels := of(1), of(0), 0, 0
	top := of(0)
	for _, d := range l {
		n = new(big.Int).Mul(n, of(d.Size))
		all = all.Add(all, n)
		greatest = max(greatest, d.Size)
		if n.Cmp(top) > 0 {
			top = n
		}
	}
	for _, f := range q.f {
		levels += len(f)
	}
	each := of(16 * (levels + 1))
	each.Mul(each, of(greatest+1)).Add(each, of(64+4*(len(q.t.F)+len(q.index))))
	fuel := all.Add(all, of(2)).Mul(all, each)
	cells := n.Mul(n, of(len(q.index)+1))
	for _, x := range []*big.Int{top, fuel, cells} {
		if x.BitLen() > 62 {
			return 0, 0, api.ErrLarge
		}
	}
	return int(fuel.Int64()), int(cells.Int64()), api.OK
}

// push is what is pushed at once: the target's places, and a value.
type push struct {
	at [4]int
	v  int64
}

// before tells which one of two comes first, put in order.
func before(a, b push) int {
	if k := slices.Compare(a.at[:], b.at[:]); k != 0 {
		return k
	}
	if a.v < b.v {
		return -1
	}
	if a.v > b.v {
		return 1
	}
	return 0
}

// pushesOf are a value for each place at which all tensors have an entry, put in order.
func pushesOf(q call, l []api.Tensor) []push {
	inside, outside := q.listed()
	names := append(inside, outside...)
	var all []push
	at := map[string]int{}
	var further func(k int)
	further = func(k int) {
		if k < len(names) {
			size, _ := q.sizeOf(names[k])
			for n := range size {
				at[names[k]] = n
				further(k + 1)
			}
			return
		}
		x := push{v: q.t.K}
		for m, i := range q.index {
			x.at[m] = at[i]
		}
		for m, f := range q.t.F {
			var c []int
			for _, i := range f.Index {
				c = append(c, at[i])
			}
			v, is, e := store.Get(l[m], c...)
			if !is || e != api.OK {
				return
			}
			x.v *= v
		}
		all = append(all, x)
	}
	further(0)
	slices.SortFunc(all, before)
	return all
}
