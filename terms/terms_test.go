package terms_test

import (
	"math"
	"slices"
	"strconv"
	"strings"
	"testing"

	"purfle/api"
	"purfle/notation"
	"purfle/terms"
)

// told are the tensors of most tests.
const told = `tensor a[2]: dense
tensor b[2, 3]: csr
tensor c[3]: csf
tensor s[]: dense
tensor q[3, 3]: dcsc
tensor x[2, 3, 1, 2]: coo
tensor e[0]: dense
tensor f[0, 3]: csc
tensor h[2048]: csf
tensor far[2147483648]: csf
`

// given is what they are; far is not given.
func given() []api.Bound {
	b := []api.Bound{
		laid("a", []int{2}, 10, 20), laid("b", []int{2, 3}, 1, 0, 2, 0, 3, 0), laid("c", []int{3}, 5, 7, 11), laid("s", nil, -4), laid("q", []int{3, 3}, 1, 2, 3, 4, 5, 6, 7, 8, 9),
		laid("x", []int{2, 3, 1, 2}, 0, 1, 2, 3, 4, 5, 6, 7, 8, 9, 10, 11), laid("e", []int{0}), laid("f", []int{0, 3}),
	}
	return append(b, laid("h", []int{2048}, slices.Repeat([]int64{3}, 2048)...))
}

// laid is a tensor that is given.
func laid(name string, shape []int, v ...int64) api.Bound {
	return api.Bound{Name: name, D: api.Dense{Shape: shape, V: v}}
}

// lines is the program of a text, behind the tensors that are told.
func lines(t *testing.T, s string) api.Prog {
	t.Helper()
	p, at, e := notation.Parse(told + s)
	if e != api.OK {
		t.Fatalf("%q: error %d at %d", s, e, at)
	}
	return p
}

// product is a text of so many of a factor; it is even, as from the left on it would be too deep.
func product(many int, factor string) string {
	if many == 1 {
		return factor
	}
	return "(" + product(many/2, factor) + " * " + product(many-many/2, factor) + ")"
}

// sum is a text of so many terms, even likewise.
func sum(many int, part string) string {
	if many == 1 {
		return part
	}
	return "(" + sum(many/2, part) + " + " + sum(many-many/2, part) + ")"
}

// P12.1

func wantTerms(t *testing.T, s api.Stmt, d []api.Decl, want []string, e api.Errno) {
	t.Helper()
	if l, got := terms.Terms(s, d...); got != e || !slices.Equal(texts(l), want) {
		line, _ := notation.Text(api.Prog{S: []api.Stmt{s}})
		t.Errorf("Terms of %q: got %v, error %d; want %v, error %d", line, texts(l), got, want, e)
	}
}

func TestTerms(t *testing.T) {
	for _, x := range []struct{ s, want string }{
		{"s[] = 3", "3"}, {"s[] = s[]", "1 s"}, {"a[i] = a[i]", "1 a.i"}, {"b[k, i] = x[k, i, o, k]", "1 x.k.i.0.k /0:1"}, {"s[] = - s[]", "-1 s"}, {"s[] = - - 5", "5"}, {"s[] = - (s[] - 2)", "-1 s, 2"},
		{"s[] = 1 + s[] + 2", "1, 1 s, 2"}, {"s[] = 1 - (s[] - 2)", "1, -1 s, 2"}, {"s[] = 1 - 2 - 3", "1, -2, -3"}, {"s[] = 1 + 1", "1, 1"},
		{"s[] = 2 * s[] * 3", "6 s"}, {"s[] = s[] * - s[]", "-1 s s"}, {"s[] = (1 + s[]) * (2 - s[])", "2, -1 s, 2 s, -1 s s"}, {"s[] = (1 - 2) * (3 - 4)", "3, -4, -6, 8"}, {"s[] = - (1 + s[]) * 2", "-2, -2 s"}, {"a[i] = (a[i] + 1) * (a[i] + 1)", "1 a.i a.i, 1 a.i, 1 a.i, 1"},
		{"c[k] = c[k] * a[i] * b[i, k]", "1 c.k a.0 b.0.k /0:2"}, {"s[] = (a[i] + 2) * b[i, k]", "1 a.0 b.0.1 /0:2 /1:3, 2 b.0.1 /0:2 /1:3"},
		// Sums that stand by themselves: the first one outermost.
		{"s[] = b[i, k]", "1 b.0.1 /0:2 /1:3"}, {"s[] = b[k, i] * q[i, j] * a[k]", "1 b.0.1 q.1.2 a.0 /0:2 /1:3 /2:3"}, {"a[j] = q[i, k] * x[j, k, o, j]", "1 q.0.1 x.j.1.2.j /0:3 /1:3 /2:1"}, {"s[] = q[i, i]", "1 q.0.0 /0:3"},
		{"a[i] = b[i, k] * c[k] + a[i] - c[j]", "1 b.i.0 c.0 /0:3, 1 a.i, -1 c.0 /0:3"},
		// Sums that are written.
		{"s[] = sum(i, a[i])", "1 a.0 /0:2"}, {"s[] = sum(k, sum(i, b[i, k]))", "1 b.1.0 /0:3 /1:2"}, {"s[] = sum(i, sum(k, b[i, k]))", "1 b.0.1 /0:2 /1:3"}, {"s[] = sum(k, b[i, k])", "1 b.0.1 /0:2 /1:3"}, {"s[] = sum(k, b[i, k] * q[j, k])", "1 b.0.2 q.1.2 /0:2 /1:3 /2:3"},
		{"a[i] = sum(k, sum(j, q[j, k]) * b[i, k])", "1 q.1.0 b.i.0 /0:3 /1:3"}, {"a[i] = sum(k, b[i, k] * sum(j, q[j, k]))", "1 b.i.0 q.1.0 /0:3 /1:3"}, {"a[i] = sum(j, sum(k, b[i, k]) * sum(k, q[j, k]) * c[j])", "1 b.i.1 q.0.2 c.0 /0:3 /1:3 /2:3"},
		{"s[] = sum(i, a[i]) * sum(i, a[i])", "1 a.0 a.1 /0:2 /1:2"}, {"s[] = sum(i, a[i]) * sum(k, c[k]) * sum(i, a[i])", "1 a.0 c.1 a.2 /0:2 /1:3 /2:2"}, {"s[] = a[i] * sum(i, a[i])", "1 a.0 a.1 /0:2 /1:2"}, {"s[] = sum(i, a[i]) * a[i]", "1 a.1 a.0 /0:2 /1:2"},
		// Over an index of the target.
		{"a[i] = sum(i, a[i])", "1 a.0 /0:2"}, {"a[i] = a[i] * sum(i, a[i]) * a[i]", "1 a.i a.0 a.i /0:2"}, {"b[i, k] = sum(i, b[i, k]) * a[i]", "1 b.0.k a.i /0:2"},
		// Over an index that stands in no tensor of a term, or in a sum over it alone.
		{"a[i] = sum(k, a[i] + c[k])", "3 a.i, 1 c.0 /0:3"}, {"s[] = sum(i, 5 - a[i])", "10, -1 a.0 /0:2"}, {"s[] = sum(i, sum(i, a[i]))", "2 a.0 /0:2"}, {"s[] = sum(i, sum(k, b[i, k] + 1) - 2)", "1 b.0.1 /0:2 /1:3, 6, -4"}, {"s[] = sum(i, a[i] * sum(i, a[i]))", "1 a.0 a.1 /0:2 /1:2"}, {"s[] = sum(i, sum(i, a[i]) + a[i] * 7)", "2 a.0 /0:2, 7 a.0 /0:2"},
		{"s[] = (a[i] - 1) * (b[i, k] + 2)", "1 a.0 b.0.1 /0:2 /1:3, 6 a.0 /0:2, -1 b.0.1 /0:2 /1:3, -12"}, {"s[] = sum(i, (1 + a[i]) * sum(k, c[k] - 1))", "2 c.0 /0:3, -6, 1 a.0 c.1 /0:2 /1:3, -3 a.0 /0:2"},
		// Terms of 0 are left out, whatever else they are.
		{"s[] = 0", ""}, {"s[] = 0 * s[]", ""}, {"s[] = s[] * 0 + 7", "7"}, {"s[] = (0 + s[]) * (s[] - 0)", "1 s s"}, {"s[] = - 0 - 0", ""}, {"s[] = sum(i, 0 * a[i])", ""}, {"s[] = 1 - 1", "1, -1"}, {"s[] = (1 - 1) * s[]", "1 s, -1 s"},
		// Indices without places: a sum over one of a tensor's is left as it is.
		{"s[] = e[i]", "1 e.0 /0:0"}, {"s[] = sum(i, e[i] + 1)", "1 e.0 /0:0"}, {"c[k] = sum(i, f[i, k] * c[k] + c[k])", "1 f.0.k c.k /0:0"}, {"e[i] = e[i] + 1", "1 e.i, 1"}, {"s[] = f[i, k] - 2", "1 f.0.1 /0:0 /1:3, -2"},
	} {
		p := lines(t, x.s)
		var want []string
		if x.want != "" {
			want = strings.Split(x.want, ", ")
		}
		wantTerms(t, p.S[0], p.D, want, api.OK)
	}
}

func TestTermsOfNumbersThatGoAround(t *testing.T) {
	const two32 = "4294967296"
	for _, x := range []struct{ s, want string }{
		{"s[] = 999999999999999999 * 999999999999999999 * s[]", "-7527149226598858751 s"}, {"s[] = 2147483648 * " + two32, "-9223372036854775808"}, {"s[] = - (2147483648 * " + two32 + " * s[])", "-9223372036854775808 s"}, {"s[] = 1 - 2147483648 * " + two32, "1, -9223372036854775808"},
		{"s[] = sum(i, 999999999999999999 * far[i] + 999999999999999999)", "999999999999999999 far.0 /0:2147483648, " + strconv.FormatInt(around(bigProduct(999999999999999999, 2147483648)), 10)},
		// What comes to 0 is left out, too.
		{"s[] = " + two32 + " * " + two32 + " * s[] + 1", "1"}, {"a[i] = a[i] - sum(k, " + two32 + " * " + two32 + " * c[k])", "1 a.i"},
	} {
		p := lines(t, x.s)
		wantTerms(t, p.S[0], p.D, strings.Split(x.want, ", "), api.OK)
	}
}

func TestTermsAsManyAsMayBe(t *testing.T) {
	many := func(n int, s string) []string { return slices.Repeat([]string{s}, n) }
	for _, x := range []struct {
		s    string
		want []string
	}{
		{sum(60, "s[]"), many(60, "1 s")}, {product(6, "(1 + 1)"), many(64, "1")}, {product(7, "(1 + 1)"), nil}, {product(30, "(1 + 1)"), nil}, {product(6, "(1 - s[])") + " + s[]", nil}, {product(2, sum(8, "2")), many(64, "4")}, {product(2, sum(8, "2")) + " - 1", nil}, {"- (" + product(2, sum(8, "2")) + ")", many(64, "-4")},
		{sum(5, "2") + " * " + sum(13, "2"), nil}, {sum(4, "2") + " * " + sum(16, "1"), many(64, "2")}, {sum(2, "1") + " * " + sum(33, "1"), nil}, {sum(2, "1") + " * " + sum(32, "1"), many(64, "1")}, {"sum(i, a[i] * " + product(6, "(1 + 1)") + ")", many(64, "1 a.0 /0:2")},
		{product(8, "s[]"), []string{"1 s s s s s s s s"}}, {product(9, "s[]"), nil}, {product(8, "s[]") + " * 2 * 3", []string{"6 s s s s s s s s"}}, {"s[] - " + product(9, "s[]"), nil}, {product(5, "s[]") + " * (1 + " + product(4, "s[]") + ")", nil}, {product(4, "s[]") + " * (1 + " + product(4, "s[]") + ")", []string{"1 s s s s", "1 s s s s s s s s"}},
		{"sum(i, sum(i, a[i]) * " + product(8, "a[i]") + ")", nil}, {"sum(i, sum(i, a[i]) * " + product(7, "a[i]") + ")", []string{"1 a.1 a.0 a.0 a.0 a.0 a.0 a.0 a.0 /0:2 /1:2"}},
		// Those of 0 count as well.
		{"0 * " + product(6, "(1 + 1)"), []string{}}, {"0 * " + product(6, "(1 + 1)") + " + 1", nil}, {"0 * " + product(7, "(1 + 1)"), nil}, {"0 * " + product(8, "s[]"), []string{}}, {"0 * " + product(9, "s[]"), nil}, {"1 + 0 * " + product(9, "s[]"), nil}, {product(7, "(0 + 1)"), nil}, {product(6, "(0 + 1)"), many(1, "1")}, {"e[i] * " + product(7, "(1 + 1)"), nil},
	} {
		p := lines(t, "s[] = 1")
		n, e := notation.Read(x.s)
		if e != api.OK {
			t.Fatalf("%q: error %d", x.s, e)
		}
		e = api.OK
		if x.want == nil {
			e = api.ErrLarge
		}
		got, is := terms.Terms(api.Stmt{Name: "s", E: n}, p.D...)
		if l := texts(got); is != e || !slices.Equal(l, x.want) {
			t.Errorf("Terms of %q: got %d, %v, error %d; want %d, %v, error %d", x.s, len(l), l, is, len(x.want), x.want, e)
		}
	}
}

func TestTermsOfManySums(t *testing.T) {
	var factors, want, sums []string
	for k := range 8 {
		n := strconv.Itoa(k)
		factors = append(factors, "x[a"+n+", b"+n+", c"+n+", d"+n+"]")
		x := "x"
		for m, size := range []string{"2", "3", "1", "2"} {
			at := strconv.Itoa(4*k + m)
			x += "." + at
			sums = append(sums, "/"+at+":"+size)
		}
		want = append(want, x)
	}
	p := lines(t, "s[] = "+strings.Join(factors, " * "))
	wantTerms(t, p.S[0], p.D, []string{"1 " + strings.Join(append(want, sums...), " ")}, api.OK)
	// An index is itself, even where its tensor has it more than once, and as deep as it may stand.
	p = lines(t, "s[] = "+strings.Repeat("- ", 13)+"sum(i, x[i, k, o, i])")
	wantTerms(t, p.S[0], p.D, []string{"-1 x.2.0.1.2 /0:3 /1:1 /2:2"}, api.OK)
}

func TestTermsOfItsErrors(t *testing.T) {
	much := product(7, "(1 + 1)")
	for _, x := range []struct {
		s string
		e api.Errno
	}{
		// What does not go together comes ahead of what is too much.
		{"y[] = " + much, api.ErrName}, {"s[] = y[] * " + much, api.ErrName}, {"s[] = " + much + " * y[]", api.ErrName}, {"s[i] = " + much, api.ErrRank}, {"q[i, i] = " + much, api.ErrName}, {"a[i] = c[i] * " + much, api.ErrShape}, {"s[] = sum(i, 1) * " + much, api.ErrNone},
		{"s[] = y[]", api.ErrName}, {"s[] = a[]", api.ErrRank}, {"s[] = a[i] * c[i]", api.ErrShape}, {"s[] = sum(i, c[k])", api.ErrNone}, {"s[] = 1 + " + much, api.ErrLarge},
	} {
		p := lines(t, x.s)
		wantTerms(t, p.S[0], p.D, nil, x.e)
	}
	d := lines(t, "").D
	for _, n := range badNodes() {
		wantTerms(t, api.Stmt{Name: "s", E: n}, d, nil, api.ErrArg)
	}
	one := api.Node{Op: api.NumN, N: 1}
	for _, s := range []api.Stmt{{}, {E: one}, {Name: "sum", E: one}, {Name: "a", Index: []string{"0"}, E: one}, {Name: "x", Index: []string{"i", "j", "k", "l", "m"}, E: one}} {
		wantTerms(t, s, d, nil, api.ErrArg)
	}
	for _, x := range []api.Decl{{}, d[0], {Name: "z", Form: "none"}, {Name: "z", Form: "csr", Shape: []int{2}}, {Name: "z", Form: "csf", Shape: []int{-1}}} {
		wantTerms(t, api.Stmt{Name: "s", E: one}, append(slices.Clone(d), x), nil, api.ErrArg)
	}
	wantTerms(t, api.Stmt{Name: "s", E: one}, nil, nil, api.ErrName)
}

// badNodes may not be; the last ones stand in themselves.
func badNodes() []api.Node {
	one := api.Node{Op: api.NumN, N: 1}
	l := []api.Node{
		{}, {Op: 8}, {Op: -1}, {Op: api.NumN, N: -1}, {Op: api.NumN, N: api.MaxN}, {Op: api.RefN}, {Op: api.RefN, Name: "tensor"}, {Op: api.RefN, Name: "a", Index: []string{"0"}}, {Op: api.RefN, Name: "x", Index: []string{"i", "j", "k", "l", "m"}},
		{Op: api.AddN}, {Op: api.MulN, L: []api.Node{one}}, {Op: api.SubN, L: []api.Node{one, one, one}}, {Op: api.NegN, L: []api.Node{one, one}}, {Op: api.SumN, L: []api.Node{one}}, {Op: api.SumN, Name: "i"}, {Op: api.MulN, L: []api.Node{one, {}}},
	}
	deep := one
	for range 16 {
		deep = api.Node{Op: api.NegN, L: []api.Node{deep}}
	}
	l = append(l, deep)
	for _, op := range []int{api.NegN, api.SumN, api.MulN} {
		within := []api.Node{{Op: op}, one}
		within[0].L = within
		l = append(l, within[0])
	}
	return l
}

func TestTensors(t *testing.T) {
	for _, x := range []struct {
		l    []string
		want []string
	}{
		{nil, nil}, {[]string{"7"}, nil}, {[]string{"1 a"}, []string{"a"}}, {[]string{"1 a b a"}, []string{"a", "b"}}, {[]string{"1 b.i a.i", "0 c a.i /i:0", "5", "2 b.k b d.0"}, []string{"b", "a", "c", "d"}}, {[]string{"1 A a", "1 aa"}, []string{"A", "a", "aa"}}, {[]string{"1 sum.i", "1 .i b"}, []string{"sum", "", "b"}},
	} {
		var l []api.Term
		for _, s := range x.l {
			l = append(l, term(s))
		}
		if got := terms.Tensors(l...); !slices.Equal(got, x.want) {
			t.Errorf("Tensors of %v: got %v; want %v", x.l, got, x.want)
		}
	}
}

func TestSame(t *testing.T) {
	all := []string{
		"2 a.i b.0 /0:3 /1:4", "3 a.i b.0 /0:3 /1:4", "-2 a.i b.0 /0:3 /1:4", "2 a.i b.0 /0:3", "2 a.i b.0 /1:4", "2 a.i b.0 /0:3 /1:5", "2 a.i b.0 /0:3 /2:4", "2 a.i b.0 /1:4 /0:3", "2 a.i b.0 /0:3 /1:4 /2:0", "2 a.i b.0", "2 b.0 a.i /0:3 /1:4",
		"2 a.i b /0:3 /1:4", "2 a.i b.0.0 /0:3 /1:4", "2 a.j b.0 /0:3 /1:4", "2 a b.0 /0:3 /1:4", "2 c.i b.0 /0:3 /1:4", "2 a.i /0:3 /1:4", "2 a.i b.0 b.0 /0:3 /1:4", "2 /0:3 /1:4", "2", "0", "0 a",
	}
	for k, x := range all {
		for m, y := range all {
			if got := terms.Same(term(x), term(y)); got != (k == m) {
				t.Errorf("Same of %q and %q: got %v", x, y, got)
			}
		}
	}
	if !terms.Same(api.Term{}, api.Term{F: []api.Factor{}, Sum: []api.Dim{}}) || !terms.Same(api.Term{F: []api.Factor{{}}}, api.Term{F: []api.Factor{{Index: []string{}}}}) {
		t.Error("a list of nothing is not the same as none")
	}
}

// P12.2

func TestDims(t *testing.T) {
	for _, x := range []struct{ t, sizes, want string }{
		{"1", "i:2", ""}, {"1 a", "i:2", ""}, {"1 a.i", "i:2", "i:2"}, {"1 a.i", "k:2", ""}, {"1 a.i", "", ""}, {"1 a.i b.k.i c.k", "k:3 i:2", "i:2 k:3"}, {"1 b.i.0 /0:3", "j:9 i:2", "i:2 0:3"}, {"1 b.0.i /0:3", "j:9 i:2", "0:3 i:2"},
		// That of the sum comes first, of sizes the first one.
		{"1 a.i", "i:2 i:3", "i:2"}, {"1 a.0 b.i.k /0:3", "0:7 i:0 i:4", "0:3 i:0"}, {"1 a.i /i:5", "i:2", "i:5"},
		// Whatever they are; a sum over what stands in no tensor plays no part.
		{"0 a.i b.k", "i:-2 k:9223372036854775807", "i:-2 k:9223372036854775807"}, {"1 a.i /k:4 /0:-1", "i:2 k:3", "i:2"}, {"1 a.0 /0:-1 /1:2", "", "0:-1"}, {"1 a.i.i.i b.i", "i:2", "i:2"}, {"1 a.k.j.i b.l", "l:1 j:2", "j:2 l:1"}, {"1 sum. a.", ":3 sum:4", ":3"},
	} {
		if got := terms.Dims(term(x.t), dims(x.sizes)...); !slices.Equal(got, dims(x.want)) {
			t.Errorf("Dims of %q, sizes %s: got %v; want %s", x.t, x.sizes, got, x.want)
		}
	}
}

func TestWork(t *testing.T) {
	const most = api.MaxWork
	for _, x := range []struct {
		t    string
		want int
	}{
		{"5", 1}, {"0", 1}, {"1 a.i", 2}, {"1 a b c", 4}, {"7 /0:3", 3}, {"1 a.0 /0:3", 6}, {"1 a.0 b.1 /0:3 /1:5", 45}, {"1 a a a a a a a a a a", 11}, {"1 a /0:2 /0:2", 8}, {"1 a /0:1 /1:1", 2},
		{"1 /0:0", 0}, {"1 a /0:0 /1:5", 0}, {"1 a /0:5 /1:0", 0}, {"1 a /0:-1", 0}, {"1 a /0:-2 /1:-3", 0}, {"1 a /0:-9223372036854775808 /1:-1", 0},
		{"1 /0:4194304", most}, {"1 /0:4194305", most + 1}, {"1 a.0 /0:2097152", most}, {"1 a.0 /0:2097153", most + 1}, {"1 a b /0:1398101", most - 1}, {"1 a b /0:1398102", most + 1}, {"1 a /0:2048 /1:1024", most}, {"1 /0:2048 /1:2049", most + 1},
		{"1 /0:9223372036854775807", most + 1}, {"1 a /0:4611686018427387904 /1:2", most + 1}, {"1 a /0:4294967296 /1:4294967296", most + 1}, {"1 a b c /0:4611686018427387904", most + 1}, {"1 /0:4294967296 /1:4294967296 /2:4294967296 /3:0", 0}, {"1 /0:0 /1:9223372036854775807 /2:9223372036854775807", 0}, {"1 /0:9223372036854775807 /1:-5 /2:9223372036854775807", 0},
	} {
		if got := terms.Work(term(x.t)); got != x.want || got != workOf(term(x.t)) {
			t.Errorf("Work of %q: got %d; want %d", x.t, got, x.want)
		}
	}
	for many, want := range map[int]int{most - 1: most, most: most + 1, most + 9: most + 1} {
		x := api.Term{F: make([]api.Factor, many)}
		if got := terms.Work(x); got != want {
			t.Errorf("Work of %d tensors: got %d; want %d", many, got, want)
		}
		x.Sum = dims("0:0")
		if got := terms.Work(x); got != 0 {
			t.Errorf("Work of %d tensors, at no places: got %d", many, got)
		}
	}
}

// P12.3

func wantValue(t *testing.T, x api.Term, at []api.Dim, b []api.Bound, want int64, e api.Errno) {
	t.Helper()
	if v, got := terms.Value(x, at, b...); v != want || got != e {
		t.Errorf("Value of %.200q at %v: got %d, error %d; want %d, error %d", text(x), at, v, got, want, e)
	}
}

func TestValue(t *testing.T) {
	for _, x := range []struct {
		t, at string
		want  int64
	}{
		{"7", "", 7}, {"0", "", 0}, {"-3 s", "", 12}, {"1 a.i", "i:1", 20}, {"2 a.i a.k", "k:0 i:1", 400}, {"2 b.i.0 /0:3", "i:1", 6}, {"1 b.i.k", "i:0 k:2", 2}, {"1 q.k.i", "i:0 k:2", 7}, {"1 q.i.i", "i:1", 5}, {"-1 x.i.k.o.i", "i:1 k:2 o:0", -11},
		{"1 a.0 /0:2", "", 30}, {"1 a.0 a.0 /0:2", "", 500}, {"1 a.0 a.1 /0:2 /1:2", "", 900}, {"1 b.0.1 c.1 /0:2 /1:3", "", 48}, {"1 b.1.0 c.0 /0:3 /1:2", "", 48}, {"1 q.0.1 q.1.2 q.2.0 /0:3 /1:3 /2:3", "", 4185},
		// Sums over what stands in no tensor.
		{"5 /0:3", "", 15}, {"1 a.i /0:3 /1:2", "i:0", 60}, {"1 a.0 /1:3 /0:2", "", 90}, {"1 s /k:1", "", -4},
		// What is summed over is at no place that is told; of several places, or sums, the last one counts.
		{"1 a.i /i:2", "i:1", 30}, {"1 a.i /i:2", "i:7", 30}, {"1 a.i", "i:7 i:0 k:3 i:1", 20}, {"1 a.0 /0:3 /0:2", "", 90}, {"1 a.0 /0:2 /0:1", "", 20}, {"1 a.0 /0:1 /0:2", "", 30},
		// Of no places there is nothing, not even an error.
		{"1 a.0 /0:0", "", 0}, {"1 e.0 /0:0", "", 0}, {"5 /0:3 /1:0", "", 0}, {"5 /0:-4", "", 0}, {"1 y.z /0:0", "", 0}, {"1 bad /0:5 /1:-1", "", 0}, {"1 a.0 /0:9223372036854775807 /1:9223372036854775807 /2:0", "", 0},
	} {
		wantValue(t, term(x.t), dims(x.at), given(), x.want, api.OK)
	}
	// Numbers go around.
	b := []api.Bound{laid("m", nil, math.MinInt64), laid("n", nil, math.MaxInt64), laid("l", []int{3}, math.MaxInt64, math.MaxInt64, 3)}
	for _, x := range []struct {
		t    string
		want int64
	}{
		{"-1 m", math.MinInt64}, {"2 m", 0}, {"1 n n", 1}, {"1 l.0 /0:3", 1}, {"1 m /0:3", math.MinInt64}, {"9223372036854775807 n", 1}, {"-9223372036854775808 m", 0}, {"-1 n m", math.MinInt64}, {"9223372036854775807 /0:3", math.MaxInt64 - 2},
	} {
		wantValue(t, term(x.t), nil, b, x.want, api.OK)
	}
	// What is not asked for may be missing, or no good, or given ahead of what counts.
	wantValue(t, term("1 a.i"), dims("i:1"), append([]api.Bound{laid("a", []int{7}), laid("z", []int{-1})}, given()...), 20, api.OK)
}

func TestValueOfItsErrors(t *testing.T) {
	b := append(given(), laid("bad", []int{2}, 1), laid("large", []int{api.MaxLaid + 1}), laid("none", []int{-1}), laid("c", []int{3}, 5, 7, 11), laid("q", []int{3, 3}, 1), laid("q", []int{2, 2}, 1, 2, 3, 4))
	for _, x := range []struct {
		t string
		e api.Errno
	}{
		{"1 y", api.ErrName}, {"0 y", api.ErrName}, {"1 a.k", api.ErrName}, {"1 q.i.k", api.ErrName}, {"1 q.k.i", api.ErrName}, {"1 a.j", api.ErrRange}, {"1 a.n", api.ErrRange}, {"1 a.far", api.ErrRange}, {"1 a.low", api.ErrRange}, {"1 q.i.j", api.ErrRange}, {"1 e.i", api.ErrRange}, {"1 a", api.ErrRange}, {"1 a.i.i", api.ErrRange}, {"1 s.i", api.ErrRange}, {"1 x.i.i.i.i.i", api.ErrRange},
		{"1 bad.i", api.ErrArg}, {"1 none.i", api.ErrArg}, {"1 large.i", api.ErrLarge}, {"1 bad", api.ErrArg},
		// That one is not given, or an index is nowhere, comes ahead of all that box tells, of each tensor.
		{"1 a.j.k", api.ErrName}, {"1 bad.k", api.ErrName}, {"1 large.i.k", api.ErrName}, {"1 y.j", api.ErrName},
		// The first tensor that has one.
		{"1 y a.j", api.ErrName}, {"1 a.j y", api.ErrRange}, {"1 bad.i y", api.ErrArg}, {"1 a.i large.i bad.i", api.ErrLarge}, {"0 a.i a.k bad.i", api.ErrName}, {"1 s a.i a.j y bad", api.ErrRange},
		// At the first place that has one.
		{"1 a.0 /0:3", api.ErrRange}, {"1 a.0 y.0 /0:3", api.ErrName}, {"1 a.0 bad.i /0:3", api.ErrArg}, {"1 c.0 a.0 large.0 /0:3", api.ErrLarge}, {"1 a.0 a.1 /0:2 /1:3", api.ErrRange}, {"1 a.0 c.1 /0:3 /1:3", api.ErrRange}, {"1 b.1.0 /0:2 /1:3", api.ErrRange}, {"1 a.0 a.k /0:3", api.ErrName}, {"1 e.0 y /0:1", api.ErrRange}, {"1 q.0.1 /0:2 /1:3", api.ErrRange},
		// What is summed over is told for that alone, under its name.
		{"1 a.0", api.ErrName}, {"1 a.0 /1:2", api.ErrName}, {"1 a.i /i:3", api.ErrRange}, {"1 a.0 /0:2 /0:3", api.ErrRange},
		// That it is too much comes ahead of all.
		{"1 y a.k bad /0:1048577", api.ErrLarge}, {"1 y /0:2097152", api.ErrName}, {"1 y /0:2097153", api.ErrLarge}, {"1 a.0 /0:9223372036854775807", api.ErrLarge},
	} {
		wantValue(t, term(x.t), dims("i:1 j:0 j:3 n:-1 far:9223372036854775807 low:-9223372036854775808"), b, 0, x.e)
	}
	wantValue(t, term("1 a.i"), nil, given(), 0, api.ErrName)
	wantValue(t, term("1 s"), nil, nil, 0, api.ErrName)
	wantValue(t, term("1 b.i.0 /0:3"), nil, given(), 0, api.ErrName)
}

func TestValueOfMuchWork(t *testing.T) {
	const most = api.MaxWork
	wantValue(t, term("3 /0:4194304"), nil, nil, 3*most, api.OK)
	wantValue(t, term("3 /0:4194305"), nil, nil, 0, api.ErrLarge)
	wantValue(t, term("1 a.1 /0:1048576 /1:2"), nil, given(), 30*most/4, api.OK)
	wantValue(t, term("1 a.1 /0:1048577 /1:2"), nil, given(), 0, api.ErrLarge)
	wantValue(t, term("1 h.0 h.1 /0:2048 /1:682"), nil, given(), 9*2048*682, api.OK)
	wantValue(t, term("1 h.0 h.1 /0:2048 /1:683"), nil, given(), 0, api.ErrLarge)
	ones := slices.Repeat([]api.Factor{{Name: "one"}}, most)
	wantValue(t, api.Term{K: 5, F: ones[1:]}, nil, []api.Bound{laid("one", nil, 1)}, 5, api.OK)
	if _, e := terms.Value(api.Term{K: 5, F: ones}, nil); e != api.ErrLarge {
		t.Errorf("of %d tensors: error %d", most, e)
	}
	// Sums over one place are no work, however many there are, nor are indices of a tensor that has not as many modes.
	x := term("1 a.last /first:1048576")
	for k := range 1000000 {
		x.Sum = append(x.Sum, api.Dim{Name: "s" + strconv.Itoa(k), Size: 1})
	}
	x.Sum = append(x.Sum, api.Dim{Name: "last", Size: 2})
	if v, e := terms.Value(x, nil, given()...); v != 30<<20 || e != api.OK {
		t.Errorf("of a million sums: got %d, error %d", v, e)
	}
	long := api.Term{K: 1, F: slices.Repeat([]api.Factor{{Name: "a", Index: slices.Repeat([]string{"0"}, 100000)}}, 100000), Sum: dims("0:20")}
	if _, e := terms.Value(long, nil, given()...); e != api.ErrRange {
		t.Errorf("of many indices: error %d", e)
	}
}

func wantMean(t *testing.T, s api.Stmt, d []api.Decl, b []api.Bound, want api.Dense, e api.Errno) {
	t.Helper()
	if x, got := terms.Mean(s, d, b...); got != e || !slices.Equal(x.Shape, want.Shape) || !slices.Equal(x.V, want.V) {
		line, _ := notation.Text(api.Prog{S: []api.Stmt{s}})
		t.Errorf("Mean of %q: got %v, error %d; want %v, error %d", line, x, got, want, e)
	}
}

func TestMean(t *testing.T) {
	for _, x := range []struct {
		s     string
		shape []int
		want  []int64
	}{
		{"s[] = 3", nil, []int64{3}}, {"s[] = 0", nil, []int64{0}}, {"s[] = 0 * a[i]", nil, []int64{0}}, {"s[] = s[] - 1", nil, []int64{-5}}, {"a[i] = 4", []int{2}, []int64{4, 4}}, {"a[i] = b[i, k] * c[k] - a[i] * 2", []int{2}, []int64{7, -19}}, {"s[] = (a[i] - 1) * (b[i, k] + 2)", nil, []int64{252}}, {"b[i, j] = c[j] - a[i]", []int{2, 3}, []int64{-5, -3, 1, -15, -13, -9}},
		{"q[i, j] = q[j, i] * 2", []int{3, 3}, []int64{2, 8, 14, 4, 10, 16, 6, 12, 18}}, {"c[i] = q[i, i]", []int{3}, []int64{1, 5, 9}}, {"b[k, l] = b[k, l] + a[k] * c[l]", []int{2, 3}, []int64{51, 70, 112, 100, 143, 220}}, {"a[i] = sum(i, a[i])", []int{2}, []int64{30, 30}}, {"a[i] = a[i] * sum(i, a[i] + 1)", []int{2}, []int64{320, 640}}, {"x[i, j, k, l] = x[i, j, k, l] + a[l]", []int{2, 3, 1, 2}, []int64{10, 21, 12, 23, 14, 25, 16, 27, 18, 29, 20, 31}},
		{"e[i] = 7", []int{0}, nil}, {"f[i, k] = e[i] * c[k]", []int{0, 3}, nil}, {"s[] = e[i] - 2", nil, []int64{-2}}, {"c[k] = f[i, k] + 1", []int{3}, []int64{1, 1, 1}}, {"s[] = sum(i, e[i] + 1)", nil, []int64{0}},
		{"s[] = 999999999999999999 * 999999999999999999 * a[i]", nil, []int64{around(bigProduct(-7527149226598858751, 30))}},
	} {
		p := lines(t, x.s)
		wantMean(t, p.S[0], p.D, given(), api.Dense{Shape: x.shape, V: x.want}, api.OK)
	}
}

func TestMeanOfItsErrors(t *testing.T) {
	much := product(7, "(1 + 1)")
	b := append(given()[:7], given()[8], laid("c", []int{2}, 1, 2), laid("q", []int{3, 3}))
	d := append(lines(t, "").D, api.Decl{Name: "w", Form: "csf", Shape: []int{0, 2048}})
	for _, x := range []struct {
		s string
		e api.Errno
	}{
		// That of its terms, that of what it means, that of their values.
		{"s[] = y[] + " + much, api.ErrName}, {"s[] = f[i, k] + c[k]", api.ErrName}, {"s[] = f[i, k] * " + much, api.ErrLarge}, {"far[i] = f[k, j] * " + product(9, "s[]"), api.ErrLarge}, {"s[] = c[k] + f[i, k]", api.ErrShape}, {"s[] = q[i, k]", api.ErrShape}, {"s[] = 0 * c[k]", api.ErrShape}, {"s[] = 0 * f[i, k]", api.ErrName}, {"far[i] = f[k, j]", api.ErrName}, {"far[i] = 1", api.ErrLarge},
		{"far[i] = c[k]", api.ErrShape}, {"s[] = h[i] * h[k]", api.ErrLarge}, {"s[] = sum(i, h[i] * c[k])", api.ErrShape}, {"s[i] = h[k] * " + much, api.ErrRank}, {"s[] = sum(i, 1) + c[k] + " + much, api.ErrNone},
		// Apart they are not too much, multiplied out they are.
		{"s[] = sum(i, h[i]) * sum(k, h[k])", api.ErrLarge}, {"a[i] = a[i] + sum(j, h[j]) * sum(k, h[k])", api.ErrLarge}, {"e[i] = sum(j, h[j]) * sum(k, h[k])", api.OK}, {"s[] = s[] - 0 * sum(i, h[i]) * sum(k, h[k])", api.OK}, {"s[] = sum(i, h[i]) * sum(k, h[k] * 0)", api.OK}, {"s[] = sum(i, h[i]) * sum(k, a[k])", api.OK}, {"s[] = e[i] * sum(j, h[j]) * sum(k, h[k])", api.OK}, {"w[i, l] = sum(j, h[j]) * sum(k, h[k])", api.OK},
	} {
		s := lines(t, x.s).S[0]
		want, e := meanOf(s, d, b)
		if e != x.e {
			t.Errorf("%q has error %d, and should have %d", x.s, e, x.e)
		}
		wantMean(t, s, d, b, want, x.e)
	}
	// Of 2^21 places there are just not too many; of what is at them, all is added.
	some := append(slices.Clone(d), api.Decl{Name: "g", Form: "dense", Shape: []int{682}})
	g := laid("g", []int{682}, slices.Repeat([]int64{-1}, 682)...)
	s := lines(t, "s[] = sum(i, h[i]) * sum(k, g[k])").S[0]
	wantMean(t, s, some, append(slices.Clone(b), g), api.Dense{V: []int64{-3 * 2048 * 682}}, api.OK)
	some[len(some)-1].Shape = []int{683}
	g = laid("g", []int{683}, slices.Repeat([]int64{-1}, 683)...)
	wantMean(t, s, some, append(slices.Clone(b), g), api.Dense{}, api.ErrLarge)
	for _, n := range badNodes() {
		wantMean(t, api.Stmt{Name: "s", E: n}, d, b, api.Dense{}, api.ErrArg)
	}
	wantMean(t, s, append(slices.Clone(d), d[0]), b, api.Dense{}, api.ErrArg)
}
