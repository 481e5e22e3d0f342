package terms_test

import (
	"math/big"
	"slices"
	"strconv"
	"strings"

	"purfle/api"
	"purfle/box"
	"purfle/mean"
	"purfle/shape"
)

// What the chapter's words say, told another way than the program does: terms are counted, and each one is made by itself, from the top down, its number without bounds; sums are named last of all; places are told behind what is told of them ahead.

// countOf is how many terms an expression has, how many tensors one of them has at the most, and whether that is too much at any part.
func countOf(n api.Node) (many, wide int, large bool) {
	many, wide = 1, 0
	if n.Op == api.RefN {
		wide = 1
	}
	for k, part := range n.L {
		m, w, l := countOf(part)
		large = large || l
		switch {
		case n.Op == api.MulN:
			many, wide = many*m, wide+w
		case k > 0:
			many, wide = many+m, max(wide, w)
		default:
			many, wide = m, w
		}
	}
	return many, wide, large || many > 64 || wide > 8
}

// maker makes terms, of indices that have sizes; each sum has a name of its own.
type maker struct {
	sizes []api.Dim
	sums  int
}

// nth is one of an expression's terms: its number, and all but that. Some indices are to be named otherwise.
func (m *maker) nth(n api.Node, at int, names map[string]string) (*big.Int, api.Term) {
	switch n.Op {
	case api.NumN:
		return big.NewInt(n.N), api.Term{}
	case api.RefN:
		f := api.Factor{Name: n.Name}
		for _, i := range n.Index {
			if other, is := names[i]; is {
				i = other
			}
			f.Index = append(f.Index, i)
		}
		return big.NewInt(1), api.Term{F: []api.Factor{f}}
	case api.MulN:
		many, _, _ := countOf(n.L[1])
		k, x := m.nth(n.L[0], at/many, names)
		l, y := m.nth(n.L[1], at%many, names)
		return k.Mul(k, l), api.Term{F: append(x.F, y.F...), Sum: append(x.Sum, y.Sum...)}
	case api.SumN:
		return m.over(n, at, names)
	}
	part := n.L[0]
	if many, _, _ := countOf(part); at >= many {
		part, at = n.L[1], at-many
	} else if n.Op == api.SubN {
		return m.nth(part, at, names)
	}
	k, x := m.nth(part, at, names)
	if n.Op != api.AddN {
		k.Neg(k)
	}
	return k, x
}

// over is one of a sum's terms.
func (m *maker) over(n api.Node, at int, names map[string]string) (*big.Int, api.Term) {
	m.sums++
	name := "#" + strconv.Itoa(m.sums)
	below := map[string]string{n.Name: name}
	for i, other := range names {
		if i != n.Name {
			below[i] = other
		}
	}
	size := m.sizes[slices.IndexFunc(m.sizes, func(x api.Dim) bool { return x.Name == n.Name })].Size
	k, x := m.nth(n.L[0], at, below)
	for _, f := range x.F {
		if slices.Contains(f.Index, name) {
			x.Sum = append([]api.Dim{{Name: name, Size: size}}, x.Sum...)
			return k, x
		}
	}
	return k.Mul(k, big.NewInt(int64(size))), x
}

// termsOf are a statement's terms.
func termsOf(s api.Stmt, d []api.Decl) ([]api.Term, api.Errno) {
	sizes, e := shape.Sizes(s, d...)
	if e != api.OK {
		return nil, e
	}
	n, _ := shape.Normal(s)
	many, _, large := countOf(n)
	if large {
		return nil, api.ErrLarge
	}
	var l []api.Term
	for at := range many {
		m := &maker{sizes: sizes}
		k, x := m.nth(n, at, nil)
		x.K = around(k)
		for p := range x.Sum {
			x = renamed(x, x.Sum[p].Name, strconv.Itoa(p))
		}
		if x.K != 0 {
			l = append(l, x)
		}
	}
	return l, api.OK
}

// around is what is left of a number in 64 bits.
func around(k *big.Int) int64 {
	all := new(big.Int).Lsh(big.NewInt(1), 64)
	return int64(new(big.Int).Mod(k, all).Uint64())
}

// renamed is a term of which one index has another name.
func renamed(t api.Term, from, to string) api.Term {
	for _, f := range t.F {
		if k := slices.Index(f.Index, from); k >= 0 {
			f.Index[k] = to
			renamed(t, from, to)
		}
	}
	for k := range t.Sum {
		if t.Sum[k].Name == from {
			t.Sum[k].Name = to
		}
	}
	return t
}

// lastOf is the last one of a name, and whether there is one.
func lastOf(l []api.Dim, name string) (int, bool) {
	for k := len(l) - 1; k >= 0; k-- {
		if l[k].Name == name {
			return l[k].Size, true
		}
	}
	return 0, false
}

// workOf is a term's work.
func workOf(t api.Term) int {
	w := big.NewInt(int64(len(t.F) + 1))
	for _, x := range t.Sum {
		w.Mul(w, big.NewInt(int64(max(x.Size, 0))))
	}
	if w.Cmp(big.NewInt(api.MaxWork)) > 0 {
		return api.MaxWork + 1
	}
	return int(w.Int64())
}

// valueOf is what a term is at some places.
func valueOf(t api.Term, at []api.Dim, b []api.Bound) (int64, api.Errno) {
	switch work := workOf(t); {
	case work > api.MaxWork:
		return 0, api.ErrLarge
	case work == 0:
		return 0, api.OK
	}
	return placed(t, at, b)
}

// placed is what a term is, of which some sums are at places already.
func placed(t api.Term, at []api.Dim, b []api.Bound) (int64, api.Errno) {
	if len(t.Sum) == 0 {
		return productOf(t, at, b)
	}
	all := int64(0)
	for p := 0; p < t.Sum[0].Size; p++ {
		next := append(slices.Clone(at), api.Dim{Name: t.Sum[0].Name, Size: p})
		v, e := placed(api.Term{K: t.K, F: t.F, Sum: t.Sum[1:]}, next, b)
		if e != api.OK {
			return 0, e
		}
		all += v
	}
	return all, api.OK
}

// productOf is what a term without sums is.
func productOf(t api.Term, at []api.Dim, b []api.Bound) (int64, api.Errno) {
	v := t.K
	for _, f := range t.F {
		d, is := mean.Find(f.Name, b...)
		var c []int
		for _, i := range f.Index {
			p, told := lastOf(at, i)
			c, is = append(c, p), is && told
		}
		if !is {
			return 0, api.ErrName
		}
		x, e := box.Get(d, c...)
		if e != api.OK {
			return 0, e
		}
		v *= x
	}
	return v, api.OK
}

// meanOf is what a statement's target is to be, multiplied out.
func meanOf(s api.Stmt, d []api.Decl, b []api.Bound) (api.Dense, api.Errno) {
	l, e := termsOf(s, d)
	if e != api.OK {
		return api.Dense{}, e
	}
	z, e := mean.Stmt(s, d, b...)
	if e != api.OK {
		return api.Dense{}, e
	}
	for k := range z.V {
		z.V[k] = 0
		c, _ := box.Coord(z.Shape, k)
		var at []api.Dim
		for m, i := range s.Index {
			at = append(at, api.Dim{Name: i, Size: c[m]})
		}
		for _, t := range l {
			v, e := valueOf(t, at, b)
			if e != api.OK {
				return api.Dense{}, e
			}
			z.V[k] += v
		}
	}
	return z, api.OK
}

// dimsOf are a term's indices.
func dimsOf(t api.Term, sizes []api.Dim) []api.Dim {
	var l []api.Dim
	for _, f := range t.F {
		for _, i := range f.Index {
			is := func(x api.Dim) bool { return x.Name == i }
			if slices.ContainsFunc(l, is) {
				continue
			}
			for _, told := range [][]api.Dim{sizes, t.Sum} {
				if k := slices.IndexFunc(told, is); k >= 0 {
					l = append(slices.DeleteFunc(l, is), told[k])
				}
			}
		}
	}
	return l
}

// text is a term's: its number, its tensors, each with its indices, and its sums, each with its size.
func text(t api.Term) string {
	l := []string{strconv.FormatInt(t.K, 10)}
	for _, f := range t.F {
		l = append(l, strings.Join(append([]string{f.Name}, f.Index...), "."))
	}
	for _, x := range t.Sum {
		l = append(l, "/"+x.Name+":"+strconv.Itoa(x.Size))
	}
	return strings.Join(l, " ")
}

// texts are those of terms.
func texts(l []api.Term) []string {
	var all []string
	for _, t := range l {
		all = append(all, text(t))
	}
	return all
}

// term is the one that a text is.
func term(s string) api.Term {
	l := strings.Fields(s)
	k, _ := strconv.ParseInt(l[0], 10, 64)
	t := api.Term{K: k}
	for _, x := range l[1:] {
		if sum, is := strings.CutPrefix(x, "/"); is {
			t.Sum = append(t.Sum, dims(sum)...)
			continue
		}
		f := strings.Split(x, ".")
		t.F = append(t.F, api.Factor{Name: f[0], Index: f[1:]})
	}
	return t
}

// dims are indices with their sizes, or places, as a text tells them.
func dims(s string) []api.Dim {
	var l []api.Dim
	for _, x := range strings.Fields(s) {
		name, size, _ := strings.Cut(x, ":")
		n, _ := strconv.Atoi(size)
		l = append(l, api.Dim{Name: name, Size: n})
	}
	return l
}

// bigProduct is one without bounds.
func bigProduct(a, b int64) *big.Int { return new(big.Int).Mul(big.NewInt(a), big.NewInt(b)) }
