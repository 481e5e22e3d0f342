package lower_test

import (
	"math"
	"slices"
	"strconv"
	"strings"
	"testing"

	"purfle/api"
	"purfle/box"
	"purfle/code"
	"purfle/coo"
	"purfle/lower"
	"purfle/mean"
	"purfle/notation"
	"purfle/pack"
	"purfle/run"
	"purfle/shape"
	"purfle/store"
	"purfle/terms"
)

// picks are numbers that look like no order.
type picks uint64

// below is the next one, from 0 on.
func (p *picks) below(n int) int {
	*p = *p*6364136223846793005 + 1442695040888963407
	return int(*p>>33) % n
}

// number is a small one, mostly, or one of those that numbers go around at.
func (p *picks) number() int64 {
	if p.below(4) > 0 {
		return int64(p.below(7) - 2)
	}
	l := []int64{math.MinInt64, math.MaxInt64, 1 << 32, -1 << 32, 1e18, -1e18, 1 << 62, 3037000500}
	return l[p.below(len(l))]
}

// form is a simple one of so many modes.
func (p *picks) form(rank int) []api.Spec {
	modes := make([]int, rank)
	for k := range modes {
		modes[k] = k
	}
	for k := range modes {
		n := k + p.below(rank-k)
		modes[k], modes[n] = modes[n], modes[k]
	}
	var f []api.Spec
	for _, m := range modes {
		f = append(f, api.Spec{Kind: p.below(2), Mode: m})
	}
	return f
}

// some are numbers from 0 on, rising, each one there as often as many out of 8 times.
func (p *picks) some(size, many int) []int {
	var l []int
	for n := range size {
		if p.below(8) < many {
			l = append(l, n)
		}
	}
	return l
}

// tensor is any that may be, of a shape and a simple form: children may have none below, and numbers may be 0.
func (p *picks) tensor(t *testing.T, shape []int, f []api.Spec) api.Tensor {
	t.Helper()
	x := api.Tensor{Shape: shape, F: f}
	ahead, many := 1, 2+p.below(7)
	for _, s := range f {
		l := api.Level{Kind: s.Kind, Size: shape[s.Mode]}
		if s.Kind == api.DenseL {
			ahead *= l.Size
		} else {
			l.Pos = []int{0}
			for range ahead {
				l.Crd = append(l.Crd, p.some(l.Size, many)...)
				l.Pos = append(l.Pos, len(l.Crd))
			}
			ahead = len(l.Crd)
		}
		x.L = append(x.L, l)
	}
	for range ahead {
		x.V = append(x.V, p.number())
	}
	if e := store.Check(x); e != api.OK {
		t.Fatalf("%v: error %d", x, e)
	}
	return x
}

// names are those of indices.
var names = []string{"i", "j", "k", "l", "0", "1", "2"}

// call is any that may be but for its order, and its tensors' shapes.
func (p *picks) call() (call, [][]int) {
	q := call{t: api.Term{K: p.number()}}
	of := map[string]int{}
	for _, i := range names {
		of[i] = p.below(5)
		if p.below(3) > 0 {
			of[i] = 2 + p.below(2)
		}
	}
	from := 1 + p.below(len(names))
	pick := func() string { return names[(from+p.below(from))%len(names)] }
	var shapes [][]int
	for k := range p.below(4) + p.below(2) {
		x := api.Factor{Name: "t" + strconv.Itoa(k)}
		var shape []int
		for range []int{0, 1, 1, 1, 2, 2, 2, 3, 3, 4}[p.below(10)] {
			i := pick()
			if p.below(4) > 0 && slices.Contains(x.Index, i) {
				i = pick()
			}
			x.Index = append(x.Index, i)
			shape = append(shape, of[i])
		}
		q.t.F = append(q.t.F, x)
		q.f = append(q.f, p.form(len(x.Index)))
		shapes = append(shapes, shape)
	}
	for _, n := range p.some(4, 3) {
		q.index = slices.Insert(q.index, p.below(len(q.index)+1), names[n])
	}
	in := q.inTensors()
	for _, i := range names {
		d := api.Dim{Name: i, Size: of[i]}
		if many(in, i) > 0 && many(q.index, i) == 0 && p.below(8) > 0 {
			q.t.Sum = slices.Insert(q.t.Sum, p.below(len(q.t.Sum)+1), d)
			// What is told of it otherwise does not count.
			d.Size = p.below(9) - 2
			if p.below(2) == 0 {
				continue
			}
		}
		q.sizes = append(q.sizes, d, api.Dim{Name: names[p.below(7)], Size: p.below(4)})
	}
	// The first one counts: those behind are others of names that are told.
	told := map[string]int{}
	for _, d := range q.t.Sum {
		told[d.Name] = d.Size
	}
	for k, d := range q.sizes {
		if _, is := told[d.Name]; !is {
			q.sizes[k].Size = of[d.Name]
			told[d.Name] = of[d.Name]
		}
	}
	return q, shapes
}

// places is how many places all indices have.
func (q call) places() int {
	n := 1
	inside, outside := q.listed()
	for _, i := range append(inside, outside...) {
		size, _ := q.sizeOf(i)
		n *= max(size, 0)
	}
	return n
}

func TestManyTerms(t *testing.T) {
	ran, pushed, large, none, twice := 0, 0, 0, 0, 0
	for salt := range 30000 {
		p := picks(salt)
		q, shapes := p.call()
		want, e := orderOf(q)
		if e != api.OK {
			wantNone(t, q, e)
			none++
			continue
		}
		wantOrder(t, q, want)
		if q.places() > 400 {
			large++
			continue
		}
		var l, other []api.Tensor
		for k, s := range shapes {
			x := p.tensor(t, s, q.f[k])
			l = append(l, x)
			x.V = slices.Clone(x.V)
			for n := range x.V {
				x.V[n] = p.number()
			}
			other = append(other, x)
			if len(s) > 0 && many(q.t.F[k].Index, q.t.F[k].Index[0]) > 1 {
				twice++
			}
		}
		got := wantPushes(t, q, l...)
		ran++
		if len(got) > 1 && len(l) > 1 {
			pushed++
		}
		// Of other numbers it is the same places, in the same order, in as many steps.
		was := q.t.K
		q.t.K = p.number()
		again := wantPushes(t, q, other...)
		if !slices.EqualFunc(got, again, func(a, b push) bool { return a.at == b.at }) {
			t.Fatalf("%v: got %v, and of other numbers, and %d ahead, %v", q, got, was, again)
		}
		if t.Failed() {
			t.FailNow()
		}
	}
	if ran < 15000 || pushed < 3000 || none < 1500 || twice < 1000 || large > ran {
		t.Errorf("%d ran, %d pushed, %d were too large, %d have no order, %d have an index twice: the terms are not such as they should be", ran, pushed, large, none, twice)
	}
}

// spoilt is a call with something in it that may not be, or may.
func (p *picks) spoilt() call {
	q, _ := p.call()
	q.sizes = slices.Clone(q.sizes)
	switch p.below(12) {
	case 0:
		q.f = append(q.f, p.form(p.below(3)))
	case 1:
		q.f = q.f[:max(len(q.f)-1, 0)]
	case 2:
		q.index = append(q.index, names[p.below(7)])
	case 3:
		q.index = append(q.index, "x")
	case 4:
		q.t.Sum = append(q.t.Sum, api.Dim{Name: names[p.below(7)], Size: p.below(3)})
	case 5:
		for k := range q.sizes {
			if p.below(6) == 0 {
				q.sizes[k].Size = []int{-1, 1 << 31, 1<<31 + 1, math.MinInt, math.MaxInt}[p.below(5)]
			}
		}
	case 6:
		q.sizes = q.sizes[:p.below(len(q.sizes)+1)]
	case 7:
		for k := range q.t.Sum {
			q.t.Sum[k].Size = []int{0, 1, -1, 1 << 31, 1<<31 + 1}[p.below(5)]
		}
	case 8, 9:
		if len(q.f) > 0 {
			f := q.f[p.below(len(q.f))]
			if len(f) > 0 {
				f[p.below(len(f))] = api.Spec{Kind: p.below(6) - 1, Mode: p.below(5) - 1, Size: p.below(3) - 1}
			}
		}
	case 10:
		if len(q.t.F) > 0 {
			x := &q.t.F[p.below(len(q.t.F))]
			x.Index = append(x.Index, names[p.below(7)])
		}
	case 11:
		for range p.below(10) {
			k := strconv.Itoa(p.below(20) + 5)
			q.t.F = append(q.t.F, api.Factor{Index: []string{k}})
			q.f = append(q.f, p.form(1))
			q.sizes = append(q.sizes, api.Dim{Name: k, Size: p.below(3)})
		}
	}
	return q
}

func TestManyErrors(t *testing.T) {
	seen := map[api.Errno]int{}
	for salt := range 60000 {
		p := picks(salt + 1<<30)
		q := p.spoilt()
		want, e := orderOf(q)
		seen[e]++
		if e != api.OK {
			wantNone(t, q, e)
		} else {
			wantOrder(t, q, want)
		}
		if t.Failed() {
			t.FailNow()
		}
	}
	for _, e := range []api.Errno{api.OK, api.ErrArg, api.ErrShape, api.ErrNone} {
		if seen[e] < 2000 {
			t.Errorf("error %d came %d times alone: the calls are not such as they should be", e, seen[e])
		}
	}
	if seen[api.ErrLarge] < 100 {
		t.Errorf("there were too many indices %d times alone", seen[api.ErrLarge])
	}
}

func TestManySimple(t *testing.T) {
	yes := 0
	for salt := range 20000 {
		p := picks(salt)
		f := p.form(p.below(6))
		for k := range f {
			if p.below(8) == 0 {
				f[k] = api.Spec{Kind: p.below(7) - 1, Mode: p.below(7) - 1, Size: p.below(9) / 8}
			}
		}
		rank := len(f) + p.below(8)/7
		if lower.Simple(rank, f...) != simpleOf(rank, f) {
			t.Errorf("Simple of %d, %v: got %v", rank, f, !simpleOf(rank, f))
		}
		if simpleOf(rank, f) {
			yes++
		}
	}
	if yes < 5000 || yes > 18000 {
		t.Errorf("%d are simple: the forms are not such as they should be", yes)
	}
}

// All that there may be

func TestMostOfAll(t *testing.T) {
	// 8 tensors of 4 modes, over 8 indices, all packed, dense, or one and the other; full.
	in := []string{"i j k l", "a b c d", "i j a b", "k l c d", "i k a c", "j l b d", "i l a d", "j k b c"}
	for _, f := range []string{"p0p1p2p3", "d0d1d2d3", "p0d1p2d3", "d0p1d2p3"} {
		for size := range 3 {
			var l []string
			for _, s := range in {
				l = append(l, s+" "+f)
			}
			n := strconv.Itoa(size)
			q := ask("l k j i", strings.ReplaceAll("d=N a=N c=N b=N", "N", n), strings.ReplaceAll("i=N j=N k=N l=N", "N", n), l...)
			q.t.K = math.MinInt64
			x, _ := box.Zero(size, size, size, size)
			for k := range x.V {
				x.V[k] = int64(k + 1)
			}
			y, _ := pack.Dense(x, form(f)...)
			got := wantPushes(t, q, slices.Repeat([]api.Tensor{y}, 8)...)
			if len(got) != []int{0, 1, 256}[size] {
				t.Errorf("%v: %d came out", q, len(got))
			}
		}
	}
}

// wantWithin wants that what there is takes no more than the bounds, and tells what part of the steps it is.
func wantWithin(t *testing.T, q call, l ...api.Tensor) float64 {
	t.Helper()
	fuel, cells, e := bounds(q)
	r := ran(t, q, 0, l...)
	if e != api.OK || r.Steps > fuel || r.Cells > cells {
		t.Errorf("%v: %d steps and %d pushes, of %d and %d, error %d", q, r.Steps, r.Cells, fuel, cells, e)
	}
	return float64(r.Steps) / float64(fuel)
}

func TestWithinBounds(t *testing.T) {
	// Few places, many levels: where what is done ahead of all, and between loops, counts most; and lists that have nothing in common till their ends.
	worst := 0.0
	for size := range 40 {
		i := "i=" + strconv.Itoa(size)
		var even, odd, all []int
		for n := range size {
			all = append(all, n)
			if n%2 == 0 {
				even = append(even, n)
			} else {
				odd = append(odd, n)
			}
		}
		for many := 1; many <= 8; many++ {
			q := ask("i", "", i, several(many, "i p0")...)
			for _, lists := range [][][]int{{all}, {even, odd}, {all, even, all, odd}, {all, all, all, all, all, all, all, odd}} {
				var l []api.Tensor
				for k := range many {
					l = append(l, packed(t, size, "p0", lists[k%len(lists)]...))
				}
				worst = max(worst, wantWithin(t, q, l...))
			}
			square := api.Coo{Shape: []int{size, size}}
			for n := range size {
				square.E = append(square.E, api.Entry{C: []int{n, n}, V: 1}, api.Entry{C: []int{n, 0}, V: 1}, api.Entry{C: []int{n, size - 1}, V: 1})
			}
			for _, f := range []string{"p0p1", "d0p1", "d0d1"} {
				x, _ := pack.Pack(square, form(f)...)
				worst = max(worst, wantWithin(t, ask("i j", "", i+" j="+strconv.Itoa(size), several(many, "i j "+f)...), slices.Repeat([]api.Tensor{x}, many)...), wantWithin(t, ask("i", "", i, several(many, "i i "+f)...), slices.Repeat([]api.Tensor{x}, many)...))
			}
		}
	}
	if worst > 1 || worst < 0.01 {
		t.Errorf("%v of the steps are taken at the worst", worst)
	}
}

// P17.5

// program is one of matrices and lists in simple forms, and a statement.
func program(t *testing.T, p *picks) (api.Prog, string) {
	t.Helper()
	var s strings.Builder
	// Of modes i, j and k there are 2, 3 and 4 places.
	for _, told := range []string{"a[2, 3]", "b[3, 4]", "c[4, 2]"} {
		s.WriteString("tensor " + told + ": " + []string{"csr", "csc", "dcsr", "dense"}[p.below(4)] + "\n")
	}
	for _, told := range []string{"u[2]", "v[3]", "w[4]"} {
		s.WriteString("tensor " + told + ": " + []string{"csf", "dense"}[p.below(2)] + "\n")
	}
	s.WriteString("tensor one[]: dense\ntensor s[]: dense\ntensor x[2]: dense\ntensor y[2, 4]: dense\ntensor z[4, 3, 2]: dense\n")
	statement := statements[p.below(len(statements))]
	q, at, e := notation.Parse(s.String() + statement)
	if e != api.OK {
		t.Fatalf("%q: error %d at %d", s.String()+statement, e, at)
	}
	return q, statement
}

var statements = []string{
	"x[i] = a[i, j] * v[j]", "y[i, k] = a[i, j] * b[j, k]", "y[i, k] = a[i, j] * b[j, k] - c[k, i]", "s[] = a[i, j] * b[j, k] * c[k, i]", "s[] = u[i] * u[i]", "x[i] = (u[i] + 2) * u[i]", "x[i] = 3", "y[i, k] = w[k] - u[i]", "z[k, j, i] = a[i, j] * w[k] + 1", "s[] = (a[i, j] - v[j]) * u[i] * one[]",
	"y[i, k] = - u[i] * w[k] * one[] * one[]", "x[i] = a[i, j] * v[j] * c[k, i] * w[k]", "z[k, j, i] = (a[i, j] + b[j, k]) * c[k, i]", "s[] = 4 * one[] - 2", "x[i] = c[k, i] - c[k, i]", "x[i] = (c[k, i] + u[i]) * (c[k, i] - u[i])", "s[] = b[j, k] * b[j, k] * 5", "y[i, k] = c[k, i]", "x[i] = u[i] * (v[j] + one[])",
}

// given are tensors for what a program tells, with few numbers.
func given(p *picks, q api.Prog) []api.Bound {
	var l []api.Bound
	for _, d := range q.D {
		x, _ := box.Zero(d.Shape...)
		for k := range x.V {
			if p.below(2) == 0 {
				x.V[k] = p.number()
			}
		}
		l = append(l, api.Bound{Name: d.Name, D: x})
	}
	return l
}

// gathered is what a term comes to, laid out; no, if it has no order.
func gathered(t *testing.T, q api.Prog, x api.Term, b []api.Bound) (api.Dense, bool) {
	t.Helper()
	s := q.S[0]
	sizes, _ := shape.Sizes(s, q.D...)
	target, _ := shape.Tensor(s.Name, q.D...)
	own := call{t: x, index: s.Index, sizes: sizes}
	var l []api.Tensor
	for _, f := range x.F {
		d, _ := shape.Tensor(f.Name, q.D...)
		form, _ := shape.Form(d)
		own.f = append(own.f, form)
		y, _ := mean.Find(f.Name, b...)
		z, e := pack.Dense(y, form...)
		if e != api.OK {
			t.Fatalf("%v: error %d", d, e)
		}
		l = append(l, z)
	}
	if _, e := orderOf(own); e != api.OK {
		wantNone(t, own, e)
		return api.Dense{}, false
	}
	y, e := lower.Gather(target.Shape, ran(t, own, 0, l...).Out...)
	if e != api.OK {
		t.Fatalf("Gather of %v: error %d", own, e)
	}
	d, e := coo.Dense(y)
	if e != api.OK {
		t.Fatalf("%v: error %d", y, e)
	}
	return d, true
}

func TestWhatTermsMean(t *testing.T) {
	whole, cycles := 0, 0
	for salt := range 6000 {
		p := picks(salt)
		q, text := program(t, &p)
		b := given(&p, q)
		want, e := mean.Stmt(q.S[0], q.D, b...)
		l, f := terms.Terms(q.S[0], q.D...)
		if e != api.OK || f != api.OK {
			t.Fatalf("%s: error %d, %d", text, e, f)
		}
		got, _ := box.Zero(want.Shape...)
		ordered := true
		for _, x := range l {
			d, is := gathered(t, q, x, b)
			if !is {
				ordered = false
				break
			}
			got, _ = box.Add(got, d)
		}
		if !ordered {
			cycles++
			continue
		}
		whole++
		if !box.Same(got, want) {
			t.Fatalf("%s, of %v: got %v; want %v", text, q.D, got, want)
		}
	}
	if whole < 4000 || cycles < 100 {
		t.Errorf("%d had orders, %d had none: the programs are not such as they should be", whole, cycles)
	}
}

// R2, R5

// roomy is a list with something behind its end.
func roomy[T any](l []T, x T) []T { return append(slices.Clone(l), x, x, x)[:len(l)] }

// whole is all of a call, its lists with what stands behind their ends.
func whole(q call) call {
	q.t.Sum = slices.Clone(q.t.Sum[:cap(q.t.Sum)])
	q.t.F = slices.Clone(q.t.F[:cap(q.t.F)])
	for k, x := range q.t.F {
		q.t.F[k].Index = slices.Clone(x.Index[:cap(x.Index)])
	}
	q.index, q.sizes = slices.Clone(q.index[:cap(q.index)]), slices.Clone(q.sizes[:cap(q.sizes)])
	q.f = slices.Clone(q.f[:cap(q.f)])
	for k, f := range q.f {
		q.f[k] = slices.Clone(f[:cap(f)])
	}
	return q
}

// same tells whether two calls are the same.
func same(a, b call) bool {
	return a.t.K == b.t.K && slices.Equal(a.t.Sum, b.t.Sum) && slices.Equal(a.index, b.index) && slices.Equal(a.sizes, b.sizes) && slices.EqualFunc(a.f, b.f, slices.Equal[[]api.Spec]) &&
		slices.EqualFunc(a.t.F, b.t.F, func(x, y api.Factor) bool { return x.Name == y.Name && slices.Equal(x.Index, y.Index) })
}

// fill writes something all over a list, and behind its end.
func fill[T any](l []T, x T) {
	for k := range l[:cap(l)] {
		l[:cap(l)][k] = x
	}
}

func TestNothingHandedInIsChangedOrKept(t *testing.T) {
	for salt := range 5000 {
		p := picks(salt)
		q, _ := p.call()
		for k := range q.t.F {
			q.t.F[k].Index = roomy(q.t.F[k].Index, "behind")
			q.f[k] = roomy(q.f[k], api.Spec{Size: 77})
		}
		q.t.F, q.f = roomy(q.t.F, api.Factor{Name: "behind"}), roomy(q.f, form("d7"))
		q.t.Sum, q.sizes, q.index = roomy(q.t.Sum, api.Dim{Size: 77}), roomy(q.sizes, api.Dim{Size: 77}), roomy(q.index, "behind")
		was := whole(q)
		l, e := order(q)
		c, f := lowered(q)
		bounds(q)
		want, code2 := slices.Clone(l), slices.Clone(c.L)
		fill(l, api.Dim{Name: "spoilt"})
		fill(c.L, api.Ins{Op: 77})
		if !same(whole(q), was) {
			t.Fatalf("changed: got %v; want %v", whole(q), was)
		}
		l, e2 := order(q)
		c, f2 := lowered(q)
		fill(q.sizes, api.Dim{Name: "spoilt"})
		fill(q.t.Sum, api.Dim{Name: "spoilt"})
		fill(q.index, "spoilt")
		for k := range q.t.F {
			fill(q.t.F[k].Index, "spoilt")
			fill(q.f[k], api.Spec{Size: 66})
		}
		if !slices.Equal(l, want) || !slices.Equal(c.L, code2) || e != e2 || f != f2 {
			t.Fatalf("%v: got %v, error %d, once what was handed in is written to; want %v, error %d", was, l, e2, want, e)
		}
	}
}

func TestNothingBoundIsChangedOrShared(t *testing.T) {
	for salt := range 3000 {
		p := picks(salt)
		sizes := []int{p.below(4), p.below(5), 1 + p.below(3)}
		x := p.tensor(t, sizes, p.form(3))
		for k := range x.L {
			x.L[k].Pos, x.L[k].Crd = roomy(x.L[k].Pos, 77), roomy(x.L[k].Crd, 77)
		}
		x.V = roomy(x.V, 77)
		c, _ := store.Read(x)
		in, e := lower.Bind(x, x)
		again, _ := lower.Bind(x, x)
		if e != api.OK || len(in) != 14 {
			t.Fatalf("%v: %d lists, error %d", x, len(in), e)
		}
		for k := range in[:7] {
			fill(in[k], -9)
			if !slices.Equal(in[k+7], again[k]) {
				t.Fatalf("%v: two lists share what they have", x)
			}
		}
		if d, e := store.Read(x); e != api.OK || !coo.Same(c, d) || x.V[:len(x.V)+1][len(x.V)] != 77 {
			t.Fatalf("%v: changed, error %d", x, e)
		}
		fill(x.V, 5)
		for k := range x.L {
			fill(x.L[k].Pos, 5)
			fill(x.L[k].Crd, 5)
		}
		if !slices.EqualFunc(in[7:], again[7:], slices.Equal[[]int64]) {
			t.Fatalf("%v: got %v, once what was handed in is written to", again, in[7:])
		}
	}
}

func TestNothingGatheredIsChangedOrShared(t *testing.T) {
	shape := roomy([]int{3, 4}, 77)
	out := [][]int64{roomy([]int64{1, 2, 0}, 77), roomy([]int64{3, 3, 0}, 77), roomy([]int64{5, -6, 0}, 77)}
	x, e := lower.Gather(shape, out...)
	y, _ := lower.Gather(shape, out...)
	for k := range x.E {
		fill(x.E[k].C, 9)
		for n := range y.E[k+1:] {
			if slices.Equal(x.E[k+1+n].C, x.E[k].C) {
				t.Errorf("places share what they have: %v", x)
			}
		}
	}
	fill(x.Shape, 9)
	fill(x.E, api.Entry{})
	if e != api.OK || !slices.Equal(shape[:5], []int{3, 4, 77, 77, 77}) || !slices.Equal(out[0][:4], []int64{1, 2, 0, 77}) || !slices.Equal(out[1][:4], []int64{3, 3, 0, 77}) || !slices.Equal(out[2][:4], []int64{5, -6, 0, 77}) {
		t.Errorf("changed: got %v, %v, error %d", shape, out, e)
	}
	fill(shape, 1)
	for _, l := range out {
		fill(l, 1)
	}
	if !coo.Same(y, api.Coo{Shape: []int{3, 4}, E: []api.Entry{{C: []int{1, 3}, V: 5}, {C: []int{2, 3}, V: -6}, {C: []int{0, 0}}}}) {
		t.Errorf("got %v", y)
	}
}

func TestCodeRunsOutOfStepsAndRoom(t *testing.T) {
	// It is never anything but too few steps, or too little room, that is wrong.
	seen := map[api.Errno]int{}
	for salt := range 3000 {
		p := picks(salt)
		q, shapes := p.call()
		c, e := lowered(q)
		if e != api.OK || q.places() > 60 {
			continue
		}
		var l []api.Tensor
		for k, s := range shapes {
			l = append(l, p.tensor(t, s, q.f[k]))
		}
		in, _ := lower.Bind(l...)
		steps, cells, e := run.Need(c, 1<<30, 1<<30, in...)
		if e != api.OK {
			t.Fatalf("%v: error %d", q, e)
		}
		for range 6 {
			fuel, room := p.below(steps+3), p.below(cells+2)
			_, e := run.Run(c, fuel, room, in...)
			seen[e]++
			if (e == api.OK) != (fuel >= steps && room >= cells) || e != api.OK && e != api.ErrFuel && e != api.ErrCells {
				s, _ := code.Text(c)
				t.Fatalf("%v within %d, %d: error %d, of\n%s", q, fuel, room, e, s)
			}
		}
	}
	if seen[api.ErrFuel] < 1000 || seen[api.ErrCells] < 500 {
		t.Errorf("%v came: the terms are not such as they should be", seen)
	}
}
