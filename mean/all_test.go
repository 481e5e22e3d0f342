package mean_test

import (
	"maps"
	"math"
	"slices"
	"testing"

	"purfle/api"
	"purfle/box"
	"purfle/mean"
	"purfle/notation"
)

// world is what programs are made of: tensors that are told, and given, and indices of which each mostly goes with modes of one size.
type world struct {
	d    []api.Decl
	b    []api.Bound
	next func(below int) int
	// Of so many picks one is any, be it right or wrong.
	wrong int
}

// goesWith are the sizes with which indices go.
func goesWith() map[string]int {
	return map[string]int{"i": 2, "j": 3, "k": 1, "l": 0, "a": 2, "b": 3, "far": 70000}
}

// anyWorld has up to six tensors, of which, if anything may be wrong, some are given badly, or twice, or not at all.
func anyWorld(salt, wrong int) *world {
	w := &world{next: counted(salt), wrong: wrong}
	for _, name := range []string{"a", "b", "c", "d", "i", "s"}[:1+w.next(6)] {
		d := api.Decl{Name: name, Form: "csf"}
		for range w.next(5) {
			d.Shape = append(d.Shape, []int{2, 3, 2, 3, 1, 2, 3, 0}[w.next(8)])
		}
		w.d = append(w.d, d)
		if !w.any(5) {
			w.give(name, d.Shape)
		}
	}
	if w.any(3) {
		w.d = append(w.d, api.Decl{Name: "far", Form: "csf", Shape: []int{70000}})
	}
	for range 2 {
		x := w.d[w.next(len(w.d))]
		switch {
		case w.any(2):
			w.give(x.Name, []int{w.next(3), 2})
		case w.any(2):
			w.b = append(w.b, bound(x.Name, badDenses()[w.next(12)]))
		case len(x.Shape) < 5 && x.Name != "far":
			w.give(x.Name, x.Shape)
		}
	}
	return w
}

// give gives a tensor of a shape, with any numbers.
func (w *world) give(name string, shape []int) {
	z, _ := box.Zero(shape...)
	for k := range z.V {
		z.V[k] = int64(w.next(7) - 3)
		if w.next(20) == 0 {
			z.V[k] = []int64{math.MinInt64, math.MaxInt64, 1 << 40, -1 << 62}[w.next(4)]
		}
	}
	w.b = append(w.b, bound(name, z))
}

// any tells whether the next pick is any.
func (w *world) any(more int) bool { return w.wrong > 0 && w.next(w.wrong*more) == 0 }

// index is one that goes with a mode of that size.
func (w *world) index(size int) string {
	var l []string
	all := w.any(8)
	for _, i := range slices.Sorted(maps.Keys(goesWith())) {
		if all || goesWith()[i] == size {
			l = append(l, i)
		}
	}
	return l[w.next(len(l))]
}

// ref is a tensor at indices, as a node.
func (w *world) ref() api.Node {
	d := w.d[w.next(len(w.d))]
	n := ref(d.Name)
	for _, size := range d.Shape {
		n.Index = append(n.Index, w.index(size))
	}
	if w.any(16) {
		n.Index = n.Index[:w.next(len(n.Index)+1)]
	}
	return n
}

// node is an expression of at most so many nodes.
func (w *world) node(most int) api.Node {
	kind := w.next(9)
	switch {
	case most > 2 && kind < 5:
		left := 1 + w.next(most-2)
		op := []int{api.AddN, api.SubN, api.MulN, api.MulN, api.AddN}[kind]
		return api.Node{Op: op, L: []api.Node{w.node(left), w.node(most - 1 - left)}}
	case most > 1 && kind == 5:
		return neg(w.node(most - 1))
	case most > 1 && kind == 6:
		return w.sum(w.node(most - 1))
	case kind == 7:
		return num(int64(w.next(4)))
	}
	return w.ref()
}

// sum is a sum over one of a part's indices, if it has one.
func (w *world) sum(n api.Node) api.Node {
	var l []string
	for _, r := range refs(n) {
		l = append(l, r.Index...)
	}
	if len(l) == 0 {
		return neg(n)
	}
	return sum(l[w.next(len(l))], n)
}

// stmt is one, whose target mostly has no index twice.
func (w *world) stmt(most int) api.Stmt {
	t := w.ref()
	for k := range t.Index {
		for range 8 {
			if slices.Contains(t.Index[:k], t.Index[k]) {
				t.Index[k] = w.index(goesWith()[t.Index[k]])
			}
		}
	}
	return stmt(t.Name, t.Index, w.node(most))
}

// prog is a program of up to so many statements.
func (w *world) prog(lines, most int) api.Prog {
	p := api.Prog{D: w.d}
	for range w.next(lines + 1) {
		p.S = append(p.S, w.stmt(1+w.next(most)))
	}
	return p
}

func TestAllOfManyPrograms(t *testing.T) {
	seen := map[api.Errno]int{}
	for salt := range 4000 {
		w := anyWorld(salt, []int{0, 2, 4}[salt%3])
		p := w.prog(4, 10)
		for _, s := range p.S {
			want, e := stmtOf(s, p.D, w.b)
			wantStmt(t, s, p.D, w.b, want, e)
			seen[e]++
		}
		want, e := progOf(p, w.b)
		wantProg(t, p, w.b, want, e)
	}
	for e, most := range map[api.Errno]int{api.OK: 2000, api.ErrName: 500, api.ErrShape: 500, api.ErrRank: 100, api.ErrLarge: 10} {
		if seen[e] < most {
			t.Errorf("error %d came %d times alone: the programs are not such as they should be", e, seen[e])
		}
	}
}

// dims are sizes, or places, of indices: most of them once, some not at all, some twice.
func (w *world) dims(below func(size int) int) []api.Dim {
	var l []api.Dim
	for range 2 {
		for _, i := range slices.Sorted(maps.Keys(goesWith())) {
			if i != "far" && (len(l) < 5 && !w.any(4) || w.next(4) == 0) {
				l = append(l, dim(i, below(goesWith()[i])))
			}
		}
	}
	return l
}

func TestAllOfManyExpressions(t *testing.T) {
	seen := map[api.Errno]int{}
	for salt := range 20000 {
		w := anyWorld(salt, []int{0, 2, 4}[salt%3])
		n := w.node(1 + w.next(12))
		sizes := w.dims(func(size int) int {
			if w.any(8) {
				return []int{-1, 0, 5, 1 << 22, 1 << 62, math.MinInt}[w.next(6)]
			}
			return size
		})
		at := w.dims(func(size int) int {
			if w.any(8) {
				return []int{-1, size, math.MaxInt, math.MinInt}[w.next(4)]
			}
			return w.next(max(size, 1))
		})
		work := workOf(n, sizes)
		wantWork(t, "any expression", n, sizes, work)
		want, e := int64(0), api.ErrLarge
		if work <= api.MaxWork {
			want, e = valueOf(n, at, sizes, w.b)
		}
		wantValue(t, n, at, sizes, w.b, want, e)
		seen[e]++
	}
	for _, e := range []api.Errno{api.OK, api.ErrArg, api.ErrLarge, api.ErrRange, api.ErrName} {
		if seen[e] < 100 {
			t.Errorf("error %d came %d times alone: the expressions are not such as they should be", e, seen[e])
		}
	}
}

// anyNode is one, be it such as may be or not, at most so deep.
func anyNode(next func(below int) int, deep int) api.Node {
	n := api.Node{Op: next(9) - 1, N: int64(next(3)), Name: []string{"", "i", "j", "k", "l"}[next(5)]}
	if n.Op == api.SumN || next(4) > 0 {
		for range next(4) * min(deep, 1) {
			n.L = append(n.L, anyNode(next, deep-1))
		}
	}
	return n
}

func TestWorkOfManyNodes(t *testing.T) {
	large := 0
	for salt := range 20000 {
		next := counted(salt)
		var sizes []api.Dim
		for range next(8) {
			sizes = append(sizes, dim([]string{"", "i", "j", "k", "l"}[next(5)], []int{0, 1, 2, 3, -1, 100, 1 << 21, 1 << 32}[next(8)]))
		}
		n := anyNode(next, 6)
		want := workOf(n, sizes)
		wantWork(t, "any node", n, sizes, want)
		if want > api.MaxWork {
			large++
		}
	}
	if large < 500 || large > 15000 {
		t.Errorf("%d of the nodes are too much", large)
	}
}

// P11.5

// stmtAt is what an expression is, put into a tensor of its own at indices.
func stmtAt(t *testing.T, w *world, index []string, n api.Node) api.Dense {
	t.Helper()
	d := api.Decl{Name: "target", Form: "dense"}
	for _, i := range index {
		d.Shape = append(d.Shape, goesWith()[i])
	}
	x, e := mean.Stmt(stmt("target", index, n), append(slices.Clone(w.d), d), w.b...)
	if e != api.OK {
		t.Fatalf("%v: error %d", n, e)
	}
	return x
}

// wantBox wants that what box made of tensors is another one.
func wantBox(t *testing.T, what string, x api.Dense, e api.Errno, want api.Dense) {
	t.Helper()
	if e != api.OK || !same(x, want) {
		t.Fatalf("%s: got %v, error %d; want %v", what, x, e, want)
	}
}

// rightWorld is one in which nothing is wrong, and an index for each of some modes.
func rightWorld(salt int) (*world, []string) {
	w := anyWorld(salt, 0)
	l := []string{"i", "j", "k", "a", "b", "l"}
	var index []string
	for range w.next(4) {
		k := w.next(len(l))
		index = append(index, l[k])
		l = slices.Delete(l, k, k+1)
	}
	return w, index
}

func TestSumsOfStatementsAreSumsOfWhatTheyMean(t *testing.T) {
	for salt := range 1500 {
		w, index := rightWorld(salt)
		n, m := w.node(1+w.next(7)), w.node(1+w.next(7))
		x, y := stmtAt(t, w, index, n), stmtAt(t, w, index, m)
		less, _ := box.Scale(y, -1)
		z, e := box.Add(x, y)
		wantBox(t, "a sum", z, e, stmtAt(t, w, index, add(n, m)))
		z, e = box.Add(x, less)
		wantBox(t, "a difference", z, e, stmtAt(t, w, index, sub(n, m)))
		wantBox(t, "an opposite", less, api.OK, stmtAt(t, w, index, neg(m)))
		z, e = box.Scale(x, 2)
		wantBox(t, "one twice", z, e, stmtAt(t, w, index, add(n, n)))
	}
}

func TestIndicesOfOtherNamesMeanTheSame(t *testing.T) {
	other := map[string]string{"i": "a", "a": "x", "j": "i", "b": "sums", "k": "tensors", "l": "l2"}
	var renamed func(n api.Node) api.Node
	renamed = func(n api.Node) api.Node {
		x := api.Node{Op: n.Op, N: n.N, Name: n.Name}
		if n.Op == api.SumN {
			x.Name = other[n.Name]
		}
		for _, i := range n.Index {
			x.Index = append(x.Index, other[i])
		}
		for _, part := range n.L {
			x.L = append(x.L, renamed(part))
		}
		return x
	}
	for salt := range 3000 {
		w := anyWorld(salt, 0)
		s := w.stmt(1 + w.next(12))
		x, e := mean.Stmt(s, w.d, w.b...)
		r := renamed(ref(s.Name, s.Index...))
		wantStmt(t, stmt(s.Name, r.Index, renamed(s.E)), w.d, w.b, x, e)
	}
}

func TestWhatIsSummedIsTheSumOfWhatIsNot(t *testing.T) {
	done := 0
	for salt := range 3000 {
		w := anyWorld(salt, 0)
		n := w.node(1 + w.next(9))
		index := notation.Free(n)
		if len(index) == 0 || len(index) > api.MaxRank {
			continue
		}
		done++
		at := w.next(len(index))
		x, e := box.Sum(stmtAt(t, w, index, n), at)
		left := slices.Delete(slices.Clone(index), at, at+1)
		wantBox(t, "a sum that is written", x, e, stmtAt(t, w, left, sum(index[at], n)))
		// A product is a term, around which the sum stands by itself.
		wantBox(t, "a sum that is not written", x, e, stmtAt(t, w, left, mul(n, num(1))))
	}
	if done < 1000 {
		t.Errorf("%d alone could be summed", done)
	}
}

// R2

// fill writes into a list, also behind its end; spoil into all that is given, or answered.
func fill[T any](l []T, x T) {
	for k := range l[:cap(l)] {
		l[:cap(l)][k] = x
	}
}

func spoil(b ...api.Bound) {
	for _, x := range b {
		fill(x.D.Shape, 77)
		fill(x.D.V, 77)
	}
	fill(b, api.Bound{Name: "other"})
}

// wantOwn wants that no two lists of some tensors stand at one spot.
func wantOwn(t *testing.T, what string, b ...api.Bound) {
	t.Helper()
	seen := map[any]int{}
	spot := func(at any) {
		if seen[at]++; seen[at] > 1 {
			t.Fatalf("%s: two lists share what they have", what)
		}
	}
	for _, x := range b {
		for k := range x.D.Shape[:cap(x.D.Shape)] {
			spot(&x.D.Shape[:cap(x.D.Shape)][k])
		}
		for k := range x.D.V[:cap(x.D.V)] {
			spot(&x.D.V[:cap(x.D.V)][k])
		}
	}
}

// spoilAll calls all there is of a program, and writes into what is answered.
func spoilAll(t *testing.T, p api.Prog, b []api.Bound, sizes []api.Dim) {
	t.Helper()
	for _, s := range p.S {
		x, _ := mean.Stmt(s, p.D, b...)
		wantOwn(t, "Stmt, and what it was handed", append(slices.Clone(b), bound(s.Name, x))...)
		spoil(bound(s.Name, x))
		mean.Work(s.E, sizes...)
		mean.Value(s.E, sizes, sizes, b...)
	}
	for _, d := range p.D {
		x, _ := mean.Find(d.Name, b...)
		wantOwn(t, "Find, and what it was handed", append(slices.Clone(b), bound(d.Name, x))...)
		spoil(bound(d.Name, x))
	}
	l, _ := mean.Prog(p, b...)
	shapes := slices.Clone(b)
	for _, d := range p.D {
		shapes = append(shapes, bound(d.Name, dense(d.Shape)))
	}
	wantOwn(t, "Prog, and what it was handed", append(shapes, l...)...)
	spoil(l...)
}

// handed is what calls are handed: lists with room behind them, where more stands.
func handed(salt int) (api.Prog, []api.Bound, []api.Dim) {
	w := anyWorld(salt, []int{0, 3}[salt%2])
	b := slices.Grow(w.b, 9)
	for range 9 {
		w.give("behind", []int{2})
	}
	b = append(b, w.b[len(b):]...)
	sizes := []api.Dim{dim("i", 2), dim("j", 3), dim("k", 1), dim("a", 2), dim("i", 1), dim("b", 3), dim("behind", 1)}
	return w.prog(4, 10), b, sizes
}

func TestNothingHandedInIsChangedOrShared(t *testing.T) {
	for salt := range 1000 {
		p, b, sizes := handed(salt)
		wasP, wasB, wasSizes := handed(salt)
		spoilAll(t, p, b[:len(b)-9], sizes[:6])
		if !notation.Equal(p, wasP) || !slices.EqualFunc(b, wasB, sameBound) || !slices.Equal(sizes, wasSizes) {
			t.Fatalf("changed, or written to by who wrote to what was answered: got %v, %v and %v; want %v, %v and %v", p, b, sizes, wasP, wasB, wasSizes)
		}
		// Nor does what was told before count, written to as it is.
		want, e := progOf(p, b[:len(b)-9])
		wantProg(t, p, b[:len(b)-9], want, e)
	}
}

func TestNothingIsKept(t *testing.T) {
	p, b := prog(t, told+"s[] = a[i]\na[i] = b[i, k] * s[]\ns[] = a[i]"), given()
	one, _ := mean.Stmt(p.S[1], p.D, b...)
	found, _ := mean.Find("b", b...)
	l, _ := mean.Prog(p, b...)
	spoil(b...)
	for _, d := range p.D {
		fill(d.Shape, 77)
	}
	for _, s := range p.S {
		fill(s.Index, "other")
	}
	want := []api.Bound{bound("s", dense(nil, 180)), bound("a", dense([]int{2}, 90, 90))}
	if !same(one, dense([]int{2}, -12, -12)) || !same(found, given()[1].D) || !slices.EqualFunc(l, want, sameBound) {
		t.Errorf("got %v, %v and %v, once what was handed in is written to", one, found, l)
	}
}
