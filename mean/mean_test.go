package mean_test

import (
	"math"
	"slices"
	"strconv"
	"strings"
	"testing"

	"purfle/api"
	"purfle/mean"
	"purfle/notation"
)

// told are the tensors of most tests, and given is what they are.
const told = "tensor a[2]: dense\ntensor b[2, 3]: csr\ntensor c[3]: csf\ntensor s[]: dense\ntensor q[3, 3]: dcsc\ntensor m[4, 6]: bsr 2\ntensor x[2, 3, 1, 2]: coo\ntensor e[0]: dense\ntensor f[0, 3]: csc\n"

func given() []api.Bound {
	return []api.Bound{
		bound("a", dense([]int{2}, 10, 20)),
		bound("b", dense([]int{2, 3}, 1, 0, 2, 0, 3, 0)),
		bound("c", dense([]int{3}, 5, 7, 11)),
		bound("s", dense(nil, -4)),
		bound("q", dense([]int{3, 3}, 1, 2, 3, 4, 5, 6, 7, 8, 9)),
		bound("x", dense([]int{2, 3, 1, 2}, 0, 1, 2, 3, 4, 5, 6, 7, 8, 9, 10, 11)),
		bound("e", dense([]int{0})),
		bound("f", dense([]int{0, 3})),
	}
}

func dense(shape []int, v ...int64) api.Dense { return api.Dense{Shape: shape, V: v} }

func bound(name string, d api.Dense) api.Bound { return api.Bound{Name: name, D: d} }

// without is what is given but for the tensors of a name.
func without(b []api.Bound, name string) []api.Bound {
	return slices.DeleteFunc(slices.Clone(b), func(x api.Bound) bool { return x.Name == name })
}

// badDenses may not be, each as box tells it.
func badDenses() []api.Dense {
	return []api.Dense{
		{}, dense([]int{2}), dense([]int{2}, 1), dense([]int{2}, 1, 2, 3), dense(nil, 1, 2), dense([]int{-1}), dense([]int{-1, -1}, 1), dense([]int{1, 1, 1, 1, 1}, 1),
		dense([]int{api.MaxLaid + 1}, make([]int64, api.MaxLaid+1)...), dense([]int{1 << 31, 1 << 31}), dense([]int{math.MaxInt, 2}, 1), dense([]int{0}, 1),
	}
}

// prog is the program of a text.
func prog(t *testing.T, text string) api.Prog {
	t.Helper()
	p, at, e := notation.Parse(text)
	if e != api.OK {
		t.Fatalf("%q: error %d at %d", text, e, at)
	}
	return p
}

// line is the statement of a text.
func line(t *testing.T, text string) api.Stmt {
	t.Helper()
	return prog(t, text).S[0]
}

// expr is the expression of a text.
func expr(t *testing.T, text string) api.Node {
	t.Helper()
	n, e := notation.Read(text)
	if e != api.OK {
		t.Fatalf("%q: error %d", text, e)
	}
	return n
}

// names are the words of a text.
func names(text string) []string { return strings.Fields(text) }

// tall is a part below opposites, so deep in all; tree is a product of so many of one part.
func tall(deep int, part api.Node) api.Node {
	for range deep - 1 {
		part = neg(part)
	}
	return part
}

func tree(many int, part api.Node) api.Node {
	if many == 1 {
		return part
	}
	return mul(tree(many/2, part), tree(many-many/2, part))
}

// twice is a node whose two parts are one, and that one's two are one, and so on, so deep.
func twice(deep int) api.Node {
	n := num(1)
	for range deep {
		n = api.Node{Op: api.AddN, L: []api.Node{n, n}}
	}
	return n
}

// within stands in itself, as often as told.
func within(op int, name string, often int) api.Node {
	l := slices.Repeat([]api.Node{{Op: op, Name: name}}, often)
	for k := range l {
		l[k].L = l
	}
	return l[0]
}

// badNodes may not be.
func badNodes() []api.Node {
	return []api.Node{
		{}, {Op: 8}, {Op: -1}, num(-1), num(api.MaxN), ref(""), ref("sum"), ref("a", "tensor"), ref("a", "i", "j", "k", "l", "m"), {Op: api.AddN}, {Op: api.SubN, L: []api.Node{num(1)}},
		{Op: api.NegN}, {Op: api.NegN, L: []api.Node{num(1), num(1)}}, {Op: api.SumN, Name: "i"}, {Op: api.MulN, N: 1, L: []api.Node{num(1), num(1)}}, {Op: api.RefN, Name: "a", L: []api.Node{num(1)}}, {Op: api.SumN, L: []api.Node{num(1)}},
		{Op: api.NumN, L: []api.Node{num(1)}}, add(num(1), num(-1)), sum("2", ref("a", "2")), tall(17, num(1)), tall(50000, ref("a")), tree(61, num(1)), twice(300), within(api.NegN, "", 1), within(api.AddN, "", 2), within(api.SumN, "i", 1),
	}
}

// P11.1

func wantFind(t *testing.T, name string, b []api.Bound, want api.Dense, is bool) {
	t.Helper()
	if d, got := mean.Find(name, b...); got != is || !same(d, want) {
		t.Errorf("Find of %q: got %v, %v; want %v, %v", name, d, got, want, is)
	}
}

func TestFind(t *testing.T) {
	b := []api.Bound{bound("a", dense([]int{2}, 9, 9)), bound("b", dense(nil, 7)), bound("a", dense([]int{1}, 3)), bound("", dense([]int{0})), bound("sum", dense(nil, 5)), bound("b", dense(nil, 8))}
	wantFind(t, "a", b, dense([]int{1}, 3), true)
	wantFind(t, "a", b[:2], dense([]int{2}, 9, 9), true)
	wantFind(t, "b", b, dense(nil, 8), true)
	wantFind(t, "b", b[:5], dense(nil, 7), true)
	wantFind(t, "", b, dense([]int{0}), true)
	wantFind(t, "sum", b, dense(nil, 5), true)
	for _, name := range []string{"A", "c", " a", "aa", "tensor", "\x00"} {
		wantFind(t, name, b, api.Dense{}, false)
	}
	wantFind(t, "", b[:3], api.Dense{}, false)
	wantFind(t, "a", nil, api.Dense{}, false)
	// It is told as it is given, be it one that may be or not.
	for _, d := range badDenses() {
		wantFind(t, "a", append(slices.Clone(b), bound("a", d)), d, true)
		wantFind(t, "a", append([]api.Bound{bound("a", d)}, b...), dense([]int{1}, 3), true)
	}
}

func wantWork(t *testing.T, what string, n api.Node, sizes []api.Dim, want int) {
	t.Helper()
	if w := mean.Work(n, sizes...); w != want {
		t.Errorf("Work of %s, sizes %v: got %d; want %d", what, sizes, w, want)
	}
}

func TestWork(t *testing.T) {
	sizes := []api.Dim{dim("i", 2), dim("k", 3), dim("z", 0), dim("y", -5), dim("i", 100), dim("z", 7), dim("y", 7), dim("w", math.MinInt)}
	for _, x := range []struct {
		s    string
		want int
	}{
		{"5", 1}, {"a[]", 1}, {"a[i, j, k, l]", 1}, {"- a[i]", 2}, {"- - 1", 3}, {"1 + 2", 3}, {"1 - 2", 3}, {"1 * 2", 3}, {"1 * 2 + 3", 5}, {"(1 + a[]) * - (b[i] - 2)", 8},
		{"sum(i, 1)", 3}, {"sum(i, a[i])", 3}, {"sum(k, a[i] * b[i])", 10}, {"sum(k, sum(i, b[i, k] + 1))", 22}, {"sum(i, sum(k, 1))", 9}, {"sum(i, sum(i, a[i]))", 7}, {"1 + sum(i, 1) * sum(k, 2)", 10}, {"sum(i, 1 + sum(k, - 2))", 19},
		// Of no places, told or not, there is nothing below.
		{"sum(z, a[] * 2)", 1}, {"sum(y, a[] * 2)", 1}, {"sum(w, 1)", 1}, {"sum(x, a[x])", 1}, {"- sum(x, 1) + 2", 4}, {"sum(z, sum(i, 1))", 1}, {"sum(i, sum(z, 1))", 3},
	} {
		wantWork(t, x.s, expr(t, x.s), sizes, x.want)
	}
	wantWork(t, "a sum, no size told", sum("i", num(1)), nil, 1)
	wantWork(t, "a sum over an index of no name", sum("", num(1)), []api.Dim{dim("", 4)}, 5)
}

func TestWorkOfWhateverNode(t *testing.T) {
	sizes := []api.Dim{dim("i", 2), dim("z", 0)}
	one, two := []api.Node{num(1)}, []api.Node{num(1), ref("a", "i")}
	for op := -1; op < 10; op++ {
		if op != api.SumN {
			wantWork(t, "a node alone", api.Node{Op: op, N: -3, Name: "i", Index: names("i j"), L: nil}, sizes, 1)
			wantWork(t, "a node with a part", api.Node{Op: op, Name: "i", L: one}, sizes, 2)
			wantWork(t, "a node with parts", api.Node{Op: op, Name: "z", L: append(two, api.Node{Op: op, L: two})}, sizes, 6)
		}
	}
	wantWork(t, "a sum of nothing", api.Node{Op: api.SumN, Name: "i"}, sizes, 1)
	wantWork(t, "a sum of two", api.Node{Op: api.SumN, Name: "i", L: two}, sizes, 5)
	wantWork(t, "a sum of two and of a sum of two", api.Node{Op: api.SumN, N: 7, Name: "i", Index: names("z"), L: append(two, api.Node{Op: api.SumN, Name: "i", L: two})}, sizes, 15)
	wantWork(t, "a sum over no places of two", api.Node{Op: api.SumN, Name: "z", L: two}, sizes, 1)
	wantWork(t, "one with many parts", api.Node{Op: api.AddN, L: make([]api.Node, 100000)}, sizes, 100001)
	wantWork(t, "a tall one", tall(65000, num(1)), sizes, 65000)
	wantWork(t, "a node twice, and again", twice(10), sizes, 1<<11-1)
	for k, n := range badNodes()[:23] {
		if w := mean.Work(n, sizes...); w != workOf(n, sizes) {
			t.Errorf("Work of bad node %d: got %d; want %d", k, w, workOf(n, sizes))
		}
	}
}

func TestWorkOfMoreThanIsDone(t *testing.T) {
	const most = api.MaxWork
	for _, x := range []struct{ size, one, three int }{
		{(most - 1) / 3, 1 + (most-1)/3, most}, {(most-1)/3 + 1, 2 + (most-1)/3, most + 1}, {most - 1, most, most + 1}, {most, most + 1, most + 1}, {most + 1, most + 1, most + 1}, {1 << 62, most + 1, most + 1}, {math.MaxInt, most + 1, most + 1},
	} {
		sizes := []api.Dim{dim("i", x.size), dim("z", 0), dim("y", math.MaxInt)}
		wantWork(t, "a sum", sum("i", num(1)), sizes, x.one)
		wantWork(t, "a sum of three nodes", sum("i", add(num(1), num(2))), sizes, x.three)
		wantWork(t, "no sum", sum("z", sum("i", num(1))), sizes, 1)
		wantWork(t, "a sum over much", sum("i", sum("y", sum("y", num(1)))), sizes, most+1)
		wantWork(t, "a sum of nothing over much", sum("i", api.Node{Op: api.SumN, Name: "y"}), sizes, x.one)
	}
	wantWork(t, "a node twice, most often", neg(twice(21)), nil, most)
	wantWork(t, "a node twice, too often", twice(22), nil, most+1)
	wantWork(t, "a node twice, more often than can be told", twice(300), nil, most+1)
	many := api.Node{Op: api.AddN, L: slices.Repeat([]api.Node{{Op: api.AddN, L: make([]api.Node, 3000)}}, 2000)}
	wantWork(t, "many of many", many, nil, most+1)
	wantWork(t, "many of many, not too many", api.Node{Op: api.AddN, L: many.L[:1000]}, nil, 3001001)
}

func TestWorkOfANodeInItself(t *testing.T) {
	sizes := []api.Dim{dim("i", 1), dim("z", 0)}
	for _, often := range []int{1, 2, 1000} {
		wantWork(t, "one in itself", within(api.NegN, "", often), sizes, api.MaxWork+1)
		wantWork(t, "a sum in itself", within(api.SumN, "i", often), sizes, api.MaxWork+1)
		wantWork(t, "a tensor in itself", within(api.RefN, "a", often), sizes, api.MaxWork+1)
		// It is never gone to.
		wantWork(t, "a sum over no places in itself", within(api.SumN, "z", often), sizes, 1)
		wantWork(t, "one below a sum over no places", sum("z", within(api.NegN, "", often)), sizes, 1)
	}
}

// P11.2

func wantValue(t *testing.T, n api.Node, at, sizes []api.Dim, b []api.Bound, want int64, e api.Errno) {
	t.Helper()
	if v, got := mean.Value(n, at, sizes, b...); v != want || got != e {
		text, _ := notation.Write(n)
		t.Errorf("Value of %q at %v, sizes %v: got %d, error %d; want %d, error %d", text, at, sizes, v, got, want, e)
	}
}

func TestValue(t *testing.T) {
	sizes := []api.Dim{dim("i", 2), dim("k", 3), dim("z", 0), dim("i", 100), dim("y", -2), dim("y", 2)}
	at := []api.Dim{dim("i", 7), dim("i", 1), dim("k", 2), dim("l", 0), dim("z", 1)}
	for _, x := range []struct {
		s    string
		want int64
	}{
		{"7", 7}, {"0", 0}, {"999999999999999999", api.MaxN - 1}, {"s[]", -4}, {"a[i]", 20}, {"b[i, k]", 0}, {"b[l, k]", 2}, {"q[k, i]", 8}, {"q[i, k]", 6}, {"q[k, k]", 9}, {"x[i, k, l, i]", 11}, {"x[l, i, l, i]", 3},
		{"- a[i]", -20}, {"- - a[i]", 20}, {"a[i] + 1", 21}, {"a[i] - c[k]", 9}, {"c[k] - a[i]", -9}, {"a[i] * c[k]", 220}, {"1 - 2 - 3", -4}, {"1 - (2 - 3)", 2}, {"2 + 3 * 4", 14}, {"(2 + 3) * 4", 20}, {"- 2 * 3 - - 4", -2},
		{"sum(i, 5)", 10}, {"sum(i, a[i])", 30}, {"sum(k, q[k, i])", 15}, {"sum(k, q[i, k])", 15}, {"sum(k, q[k, k])", 15}, {"sum(i, sum(k, b[i, k]))", 6}, {"sum(k, sum(i, b[i, k]) * c[k])", 5 + 21 + 22},
		// A sum over an index is about that one alone, and only there.
		{"sum(i, a[i]) * a[i]", 600}, {"a[i] * sum(i, a[i]) - a[i]", 580}, {"sum(i, a[i] + sum(i, a[i]) + a[i])", 120}, {"sum(i, sum(i, a[i]) * a[i])", 900}, {"sum(z, a[i]) + a[z]", 20}, {"sum(k, c[k]) - c[k] + sum(k, c[k])", 35},
		// Of no places it is 0.
		{"sum(z, 1)", 0}, {"sum(y, 1)", 0}, {"sum(x, a[x])", 0}, {"sum(z, none[z] + a[none])", 0}, {"sum(i, sum(z, 1) + 1)", 2},
	} {
		wantValue(t, expr(t, x.s), at, sizes, given(), x.want, api.OK)
	}
}

func TestValueOfNumbersThatGoAround(t *testing.T) {
	b := []api.Bound{bound("m", dense(nil, math.MinInt64)), bound("n", dense(nil, math.MaxInt64)), bound("l", dense([]int{3}, math.MaxInt64, math.MaxInt64, 3))}
	for _, x := range []struct {
		s    string
		want int64
	}{
		{"- m[]", math.MinInt64}, {"n[] + 1", math.MinInt64}, {"m[] - 1", math.MaxInt64}, {"m[] * m[]", 0}, {"n[] * n[]", 1}, {"- n[] * m[]", math.MinInt64}, {"sum(i, l[i])", 1}, {"sum(i, m[])", math.MinInt64}, {"m[] + m[]", 0},
	} {
		wantValue(t, expr(t, x.s), nil, []api.Dim{dim("i", 3)}, b, x.want, api.OK)
	}
}

func TestValueOfItsErrors(t *testing.T) {
	sizes := []api.Dim{dim("i", 2), dim("k", 4), dim("z", 0)}
	at := []api.Dim{dim("i", 1), dim("j", 0), dim("j", 3), dim("n", -1), dim("far", math.MaxInt), dim("low", math.MinInt)}
	bad := append(given(), bound("none", api.Dense{}), bound("large", badDenses()[8]), bound("bad", dense([]int{1}, 1)), bound("bad", dense([]int{-1})))
	for _, x := range []struct {
		s string
		e api.Errno
	}{
		{"y[]", api.ErrName}, {"y[i]", api.ErrName}, {"a[k]", api.ErrName}, {"q[i, k]", api.ErrName}, {"q[k, j]", api.ErrName}, {"a[j]", api.ErrRange}, {"a[n]", api.ErrRange}, {"a[far]", api.ErrRange}, {"a[low]", api.ErrRange}, {"q[i, j]", api.ErrRange}, {"q[j, i]", api.ErrRange},
		{"e[i]", api.ErrRange}, {"f[i, i]", api.ErrRange}, {"a[]", api.ErrRange}, {"a[i, i]", api.ErrRange}, {"s[i]", api.ErrRange}, {"x[i, i]", api.ErrRange},
		// That it is not given, or an index is not told, comes ahead of all that box tells.
		{"a[j, k]", api.ErrName}, {"none[k]", api.ErrName}, {"none[]", api.ErrArg}, {"none[i, j]", api.ErrArg}, {"large[i]", api.ErrLarge}, {"large[]", api.ErrLarge}, {"bad[i]", api.ErrArg}, {"y[j]", api.ErrName},
		// From the left.
		{"y[] + a[j]", api.ErrName}, {"a[j] + y[]", api.ErrRange}, {"none[] * y[]", api.ErrArg}, {"1 - (2 - none[]) - y[]", api.ErrArg}, {"- (a[i] * a[j]) + none[]", api.ErrRange}, {"0 * y[]", api.ErrName}, {"a[i] + - y[]", api.ErrName}, {"(large[] + y[]) * none[]", api.ErrLarge},
		// Of a sum, at the first place that has one.
		{"sum(i, y[i])", api.ErrName}, {"sum(k, a[k])", api.ErrRange}, {"sum(k, a[k] + y[])", api.ErrName}, {"sum(i, a[i] + none[])", api.ErrArg}, {"sum(k, q[k, i] + sum(i, a[i])) + y[]", api.ErrRange}, {"sum(k, sum(i, a[k])) + none[]", api.ErrRange}, {"sum(i, sum(k, c[k])) * y[]", api.ErrRange},
		{"sum(l, y[]) + none[]", api.ErrArg}, {"sum(z, y[]) + a[j]", api.ErrRange},
		// Behind a sum its index is told no more, if it was not ahead of it.
		{"sum(k, 1) + c[k]", api.ErrName}, {"sum(k, sum(k, 1) * 0 + 1) + c[k]", api.ErrName}, {"sum(z, 1) + a[z]", api.ErrName},
	} {
		wantValue(t, expr(t, x.s), at, sizes, bad, 0, x.e)
	}
	wantValue(t, expr(t, "y[i]"), nil, nil, nil, 0, api.ErrName)
	wantValue(t, expr(t, "sum(k, sum(k, 1) + c[k])"), nil, []api.Dim{dim("k", 3)}, given(), 9+23, api.OK)
}

func TestValueOfWhatIsGivenTwice(t *testing.T) {
	for _, d := range badDenses() {
		b := append(given(), bound("a", d))
		if _, e := mean.Value(ref("a", "i"), []api.Dim{dim("i", 0)}, nil, b...); e == api.OK {
			t.Errorf("of shape %v: no error", d.Shape)
		}
		wantValue(t, ref("c", "i"), []api.Dim{dim("i", 0)}, nil, b, 5, api.OK)
		wantValue(t, ref("a", "i"), []api.Dim{dim("i", 0)}, nil, append(b, bound("a", dense([]int{1}, 6))), 6, api.OK)
	}
}

func TestValueOfWhatMayNotBe(t *testing.T) {
	much := []api.Dim{dim("i", math.MaxInt)}
	for _, n := range badNodes() {
		wantValue(t, n, nil, much, nil, 0, api.ErrArg)
	}
	for _, n := range []api.Node{tall(16, num(1)), tree(60, num(1)), sum("i", num(1))} {
		if _, e := mean.Value(n, nil, nil); e != api.OK {
			t.Errorf("error %d", e)
		}
	}
}

func TestValueOfMuchWork(t *testing.T) {
	sizes := func(n int) []api.Dim { return []api.Dim{dim("i", n), dim("z", 0)} }
	wantValue(t, expr(t, "sum(i, 1)"), nil, sizes(api.MaxWork-1), nil, api.MaxWork-1, api.OK)
	wantValue(t, expr(t, "sum(i, 1 + 1)"), nil, sizes((api.MaxWork-1)/3), nil, (api.MaxWork-1)/3*2, api.OK)
	// That it is too much comes ahead of all that is wrong with its parts.
	for _, n := range []int{api.MaxWork, api.MaxWork + 1, math.MaxInt} {
		wantValue(t, expr(t, "sum(i, 1)"), nil, sizes(n), nil, 0, api.ErrLarge)
		wantValue(t, expr(t, "y[] + sum(i, 1)"), nil, sizes(n), nil, 0, api.ErrLarge)
		wantValue(t, expr(t, "sum(z, sum(i, 1))"), nil, sizes(n), nil, 0, api.OK)
	}
	wantValue(t, expr(t, "sum(i, sum(i, 1))"), nil, sizes(1<<11), nil, 0, api.ErrLarge)
	wantValue(t, expr(t, "sum(i, sum(i, 1))"), nil, sizes(1<<11-1), nil, (1<<11-1)*(1<<11-1), api.OK)
	wantValue(t, expr(t, "sum(i, y[])"), nil, sizes(api.MaxWork-1), nil, 0, api.ErrName)
}

// P11.3

func wantStmt(t *testing.T, s api.Stmt, d []api.Decl, b []api.Bound, want api.Dense, e api.Errno) {
	t.Helper()
	if x, got := mean.Stmt(s, d, b...); got != e || !same(x, want) {
		text, _ := notation.Text(api.Prog{S: []api.Stmt{s}})
		t.Errorf("Stmt of %q: got %v, error %d; want %v, error %d", text, x, got, want, e)
	}
}

func TestStmt(t *testing.T) {
	d := prog(t, told).D
	for _, x := range []struct {
		s    string
		want api.Dense
	}{
		{"s[] = 3", dense(nil, 3)}, {"s[] = s[] - 1", dense(nil, -5)}, {"a[i] = 4", dense([]int{2}, 4, 4)}, {"c[k] = c[k] * c[k]", dense([]int{3}, 25, 49, 121)}, {"s[] = a[i] * a[i]", dense(nil, 500)}, {"s[] = - a[i]", dense(nil, -30)},
		{"a[i] = b[i, k] * c[k]", dense([]int{2}, 27, 21)}, {"a[i] = b[i, k] * c[k] + a[i]", dense([]int{2}, 37, 41)}, {"c[k] = b[i, k]", dense([]int{3}, 1, 3, 2)}, {"b[i, j] = a[i] * c[j]", dense([]int{2, 3}, 50, 70, 110, 100, 140, 220)},
		{"b[i, j] = c[j] - a[i]", dense([]int{2, 3}, -5, -3, 1, -15, -13, -9)}, {"q[i, j] = q[j, i]", dense([]int{3, 3}, 1, 4, 7, 2, 5, 8, 3, 6, 9)}, {"c[i] = q[i, i]", dense([]int{3}, 1, 5, 9)}, {"s[] = q[i, i]", dense(nil, 15)}, {"q[i, j] = q[i, k] * q[k, j]", dense([]int{3, 3}, 30, 36, 42, 66, 81, 96, 102, 126, 150)},
		{"x[i, j, k, l] = x[i, j, k, l] + a[l]", dense([]int{2, 3, 1, 2}, 10, 21, 12, 23, 14, 25, 16, 27, 18, 29, 20, 31)}, {"b[i, j] = x[i, j, k, l]", dense([]int{2, 3}, 1, 5, 9, 13, 17, 21)},
		// Sums stand at terms: what is not summed over is added once.
		{"s[] = a[i] + 1", dense(nil, 31)}, {"s[] = (a[i] + 1) * 1", dense(nil, 32)}, {"a[i] = c[k] + 2 - b[i, k]", dense([]int{2}, 22, 22)}, {"s[] = (a[i] + 2) * b[i, k]", dense(nil, 12*3+22*3)}, {"s[] = a[i] * c[k]", dense(nil, 690)}, {"s[] = 2 * (a[i] - c[k])", dense(nil, 2*(3*30-2*23))},
		// A sum that is written, also over an index of the target.
		{"a[i] = sum(i, a[i])", dense([]int{2}, 30, 30)}, {"a[i] = a[i] - sum(i, a[i])", dense([]int{2}, -20, -10)}, {"a[i] = a[i] * sum(i, a[i]) * a[i]", dense([]int{2}, 3000, 12000)}, {"s[] = sum(k, c[k] * 2) * sum(i, a[i])", dense(nil, 1380)}, {"s[] = sum(k, b[i, k]) * c[k]", dense(nil, 6*23)},
		{"b[i, k] = sum(k, b[i, k])", dense([]int{2, 3}, 3, 3, 3, 3, 3, 3)}, {"s[] = sum(i, sum(i, a[i]))", dense(nil, 60)},
		// Indices without places.
		{"e[i] = 7", dense([]int{0})}, {"f[i, k] = e[i] * c[k]", dense([]int{0, 3})}, {"s[] = e[i]", dense(nil, 0)}, {"c[k] = f[i, k] + 1", dense([]int{3}, 1, 1, 1)}, {"s[] = f[i, k] * 2 - 3", dense(nil, -3)}, {"e[i] = f[i, k] * c[k]", dense([]int{0})},
	} {
		wantStmt(t, line(t, x.s), d, given(), x.want, api.OK)
	}
	// What is not asked for may be missing, or no good, or given ahead of what counts.
	wantStmt(t, line(t, "s[] = a[i]"), d, append([]api.Bound{bound("a", api.Dense{}), bound("s", api.Dense{}), bound("b", dense([]int{7}))}, given()[0]), dense(nil, 30), api.OK)
	wantStmt(t, line(t, "s[] = 1"), d, nil, dense(nil, 1), api.OK)
}

func TestStmtOfItsErrors(t *testing.T) {
	d := append(prog(t, told).D, api.Decl{Name: "wide", Form: "csf", Shape: []int{api.MaxLaid + 1}}, api.Decl{Name: "far", Form: "csr", Shape: []int{1 << 30, 1 << 31}})
	b := append(without(without(given(), "e"), "x"), bound("m", dense([]int{6, 4}, make([]int64, 24)...)), bound("q", dense([]int{9}, 1, 2, 3, 4, 5, 6, 7, 8, 9)), bound("wide", dense([]int{api.MaxLaid + 1}, make([]int64, api.MaxLaid+1)...)))
	for _, x := range []struct {
		s string
		e api.Errno
	}{
		// What does not go together comes ahead of what is given.
		{"z[] = e[i]", api.ErrName}, {"a[] = e[i]", api.ErrRank}, {"a[i] = c[i] + m[i, i]", api.ErrShape}, {"s[] = e[i] + sum(k, 1)", api.ErrNone}, {"q[i, i] = m[i, j]", api.ErrName}, {"s[] = m[i, j] + z[]", api.ErrName}, {"s[] = e[i] + b[i]", api.ErrRank},
		// From the left.
		{"s[] = e[i]", api.ErrName}, {"s[] = m[i, j]", api.ErrShape}, {"s[] = e[l] * m[i, j]", api.ErrName}, {"s[] = e[i] + m[k, j]", api.ErrName}, {"s[] = m[k, j] + e[i]", api.ErrShape}, {"s[] = a[i] * b[i, j] - m[k, l] * e[o]", api.ErrShape}, {"s[] = a[i] - - (2 * sum(l, e[l]) - q[j, k])", api.ErrName}, {"s[] = a[i] - - (q[j, k] - sum(l, e[l]))", api.ErrShape}, {"s[] = sum(i, 0 * e[i])", api.ErrName},
		{"s[] = x[i, j, k, l] * q[j, j]", api.ErrName}, {"s[] = wide[i]", api.ErrShape}, {"s[] = far[i, j]", api.ErrName},
		// Then the target.
		{"wide[i] = e[j]", api.ErrName}, {"wide[i] = m[j, k]", api.ErrShape}, {"wide[i] = wide[i]", api.ErrShape}, {"wide[i] = 1", api.ErrLarge}, {"wide[i] = a[j]", api.ErrLarge}, {"far[i, j] = 1", api.ErrLarge},
	} {
		wantStmt(t, line(t, x.s), d, b, api.Dense{}, x.e)
	}
	good := line(t, "s[] = a[i]")
	for _, x := range badDenses() {
		wantStmt(t, good, d, append(slices.Clone(b), bound("a", x)), api.Dense{}, api.ErrShape)
	}
	for _, x := range []api.Dense{dense(nil, 1), dense([]int{1}, 1), dense([]int{3}, 1, 2, 3), dense([]int{2, 1}, 1, 2), dense([]int{1, 2}, 1, 2), dense([]int{0})} {
		wantStmt(t, good, d, append(slices.Clone(b), bound("a", x)), api.Dense{}, api.ErrShape)
	}
}

func TestStmtOfWhatMayNotBe(t *testing.T) {
	d := prog(t, told).D
	for _, n := range badNodes() {
		wantStmt(t, stmt("s", nil, n), d, given(), api.Dense{}, api.ErrArg)
		wantStmt(t, stmt("z", names("i i"), n), d, nil, api.Dense{}, api.ErrArg)
	}
	for _, s := range []api.Stmt{{}, stmt("", nil, num(1)), stmt("sum", nil, num(1)), stmt("x", names("i j k l m"), num(1)), stmt("a", []string{""}, num(1))} {
		wantStmt(t, s, d, given(), api.Dense{}, api.ErrArg)
	}
	for _, x := range []api.Decl{{}, d[0], {Name: "z", Form: "none"}, {Name: "z", Form: "bsr", Shape: []int{2, 3}, Block: 2}, {Name: "z", Form: "csf", Shape: []int{-1}}} {
		wantStmt(t, line(t, "s[] = 1"), append(slices.Clone(d), x), given(), api.Dense{}, api.ErrArg)
	}
	wantStmt(t, line(t, "s[] = 1"), nil, given(), api.Dense{}, api.ErrName)
}

func TestStmtOfMuchWork(t *testing.T) {
	d := prog(t, "tensor a[65536]: csf\ntensor b[256, 256]: csr\ntensor c[65535]: dense\ntensor s[]: dense\ntensor w[0, 4194305]: csr\ntensor v[4194305, 0]: csf\ntensor e[0]: dense\ntensor h[1024]: csf\ntensor g[64, 64]: dense").D
	zero := func(shape ...int) api.Dense {
		n := 1
		for _, size := range shape {
			n *= size
		}
		return dense(shape, make([]int64, n)...)
	}
	b := []api.Bound{bound("a", zero(65536)), bound("b", zero(256, 256)), bound("w", zero(0, 4194305)), bound("v", zero(4194305, 0)), bound("e", zero(0)), bound("h", zero(1024)), bound("g", zero(64, 64))}
	all := func(n int) api.Dense { return dense([]int{n}, slices.Repeat([]int64{-1}, n)...) }
	// 64 nodes at each of 2^16 cells, and one more.
	n := neg(tree(32, num(1)))
	wantStmt(t, stmt("a", names("i"), n), d, b, all(65536), api.OK)
	wantStmt(t, stmt("a", names("i"), tree(33, num(1))), d, b, api.Dense{}, api.ErrLarge)
	wantStmt(t, stmt("c", names("i"), n), d, b, all(65535), api.OK)
	wantStmt(t, stmt("c", names("i"), neg(neg(n))), d, b, api.Dense{}, api.ErrLarge)
	// What counts is the work of the sums that stand there, be they written or not: 2^12 cells, and at each 2^10 - 1 places, or 2^10.
	for _, x := range []string{"g[i, j] = h[k]", "g[i, j] = sum(k, h[k])"} {
		wantStmt(t, line(t, x), d, b, api.Dense{}, api.ErrLarge)
		less := slices.Clone(d)
		less[7].Shape = []int{1023}
		wantStmt(t, line(t, x), less, append(slices.Clone(b), bound("h", zero(1023))), zero(64, 64), api.OK)
	}
	wantStmt(t, line(t, "s[] = b[i, j] * a[k]"), d, b, api.Dense{}, api.ErrLarge)
	wantStmt(t, line(t, "s[] = b[i, j] + a[k]"), d, b, dense(nil, 0), api.OK)
	// Of no cells no work is too much.
	wantStmt(t, line(t, "e[i] = w[i, k]"), d, b, zero(0), api.OK)
	wantStmt(t, line(t, "w[i, k] = w[i, k]"), d, b, zero(0, 4194305), api.OK)
	wantStmt(t, line(t, "s[] = w[i, k]"), d, b, dense(nil, 0), api.OK)
	wantStmt(t, line(t, "s[] = v[k, i]"), d, b, api.Dense{}, api.ErrLarge)
}

func TestStmtWhoseNormalExpressionMayNotBe(t *testing.T) {
	d := prog(t, "tensor a[1, 2, 1, 1]: coo\ntensor s[]: dense\ntensor c[2]: csf\ntensor o[1, 1, 1, 1]: csf").D
	b := []api.Bound{bound("a", dense([]int{1, 2, 1, 1}, 3, 5)), bound("o", dense([]int{1, 1, 1, 1}, -3))}
	// Too deep: sums stand around what is at the bottom.
	deep := mul(num(1), ref("a", "i", "j", "k", "l"))
	wantStmt(t, stmt("s", nil, tall(15, deep)), d, b, dense(nil, 8), api.OK)
	wantStmt(t, stmt("c", names("j"), tall(14, deep)), d, b, dense([]int{2}, -3, -5), api.OK)
	// Of too many nodes: of 60 tensors each has four indices of its own.
	var factors []api.Node
	for k := range 60 {
		i := "i" + strconv.Itoa(k)
		factors = append(factors, ref("o", i, i+"j", i+"k", i+"l"))
	}
	for len(factors) > 1 {
		factors = append(factors[2:], mul(factors[0], factors[1]))
	}
	want := int64(1)
	for range 60 {
		want *= -3
	}
	wantStmt(t, stmt("s", nil, factors[0]), d, b, dense(nil, want), api.OK)
}

// P11.4

func wantProg(t *testing.T, p api.Prog, b []api.Bound, want []api.Bound, e api.Errno) {
	t.Helper()
	if l, got := mean.Prog(p, b...); got != e || !slices.EqualFunc(l, want, sameBound) || e != api.OK && l != nil {
		text, _ := notation.Text(p)
		t.Errorf("Prog of %q: got %v, error %d; want %v, error %d", text, l, got, want, e)
	}
}

func TestProg(t *testing.T) {
	for _, x := range []struct {
		s    string
		want []api.Bound
	}{
		{"", nil}, {"s[] = a[i]", []api.Bound{bound("s", dense(nil, 30))}}, {"a[i] = a[i]", []api.Bound{bound("a", dense([]int{2}, 10, 20))}},
		{"s[] = a[i]\na[i] = b[i, k] * s[]\ns[] = a[i]", []api.Bound{bound("s", dense(nil, 180)), bound("a", dense([]int{2}, 90, 90))}},
		// Each statement is of what was made ahead of it, and of nothing behind it.
		{"a[i] = 1\ns[] = a[i]", []api.Bound{bound("a", dense([]int{2}, 1, 1)), bound("s", dense(nil, 2))}}, {"s[] = a[i]\na[i] = 1", []api.Bound{bound("s", dense(nil, 30)), bound("a", dense([]int{2}, 1, 1))}},
		{"s[] = s[] * s[]\ns[] = s[] * s[]\ns[] = s[] + 1", []api.Bound{bound("s", dense(nil, 257))}}, {"m[k, l] = 2\ns[] = m[k, l]", []api.Bound{bound("m", dense([]int{4, 6}, slices.Repeat([]int64{2}, 24)...)), bound("s", dense(nil, 48))}},
		{"c[j] = 1\na[i] = c[j]\nc[j] = a[i] * b[i, j]\na[k] = - a[k]", []api.Bound{bound("c", dense([]int{3}, 3, 9, 6)), bound("a", dense([]int{2}, -3, -3))}}, {"e[i] = e[i] + 1\ns[] = e[i]", []api.Bound{bound("e", dense([]int{0})), bound("s", dense(nil, 0))}},
	} {
		wantProg(t, prog(t, told+x.s), given(), x.want, api.OK)
	}
	wantProg(t, api.Prog{}, nil, nil, api.OK)
	wantProg(t, prog(t, told), nil, nil, api.OK)
	wantProg(t, prog(t, told+"s[] = 1\ns[] = s[] + 1"), nil, []api.Bound{bound("s", dense(nil, 2))}, api.OK)
}

func TestProgOfItsErrors(t *testing.T) {
	d := told + "tensor wide[65537]: csf\ntensor far[65536]: csf\n"
	b := append(without(given(), "e"), bound("c", dense([]int{2}, 1, 2)), bound("m", api.Dense{}), bound("far", dense([]int{65536}, make([]int64, 65536)...)))
	for _, x := range []struct {
		s string
		e api.Errno
	}{
		// All that does not go together comes ahead of all that is given.
		{"s[] = e[i]\nz[] = 1", api.ErrName}, {"s[] = c[i]\ns[i] = 1", api.ErrRank}, {"s[] = e[i]\na[i] = c[i]", api.ErrShape}, {"s[] = e[i]\ns[] = sum(i, 1)", api.ErrNone}, {"tensor a[1]: csf\ns[] = c[i]", api.ErrName}, {"tensor z[3]: csr\ns[] = e[i]", api.ErrNone}, {"tensor z[3, 3]: bsr 2\ns[] = e[i]", api.ErrShape},
		// Then the first statement that has an error.
		{"s[] = e[i]", api.ErrName}, {"s[] = c[i]", api.ErrShape}, {"s[] = m[i, j]", api.ErrShape}, {"s[] = e[i]\ns[] = c[i]", api.ErrName}, {"s[] = c[i]\ns[] = e[i]", api.ErrShape}, {"s[] = a[i]\ns[] = e[i]\ns[] = c[i]", api.ErrName}, {"wide[i] = 1\ns[] = e[i]", api.ErrLarge}, {"s[] = e[i]\nwide[i] = 1", api.ErrName},
		{"far[i] = far[i] * far[j]\ns[] = c[i]", api.ErrLarge}, {"s[] = wide[i]", api.ErrName}, {"s[] = e[i]\ne[i] = 1", api.ErrName},
	} {
		wantProg(t, prog(t, d+x.s), b, nil, x.e)
	}
	// What is made stands for what was no good, or missing.
	wantProg(t, prog(t, d+"c[i] = 1\ne[i] = 1\nm[i, j] = 1\ns[] = c[i] + e[k] + m[l, j]"), b, []api.Bound{bound("c", dense([]int{3}, 1, 1, 1)), bound("e", dense([]int{0})), bound("m", dense([]int{4, 6}, slices.Repeat([]int64{1}, 24)...)), bound("s", dense(nil, 27))}, api.OK)
	// Of what may not be nothing else is told.
	p := prog(t, d+"s[] = e[i]")
	for _, n := range badNodes() {
		wantProg(t, api.Prog{D: p.D, S: append(slices.Clone(p.S), stmt("s", nil, n))}, b, nil, api.ErrArg)
	}
	wantProg(t, api.Prog{D: append(slices.Clone(p.D), api.Decl{}), S: p.S}, b, nil, api.ErrArg)
	wantProg(t, api.Prog{D: p.D, S: slices.Repeat(p.S, 33)}, b, nil, api.ErrArg)
}
