package shape_test

import (
	"math"
	"slices"
	"strconv"
	"strings"
	"testing"

	"purfle/api"
	"purfle/notation"
	"purfle/shape"
)

// told are the tensors of most tests.
const told = "tensor a[2]: dense\ntensor b[2, 3]: csr\ntensor c[3]: csf\ntensor s[]: dense\ntensor q[3, 3]: dcsc\ntensor m[4, 6]: bsr 2\ntensor x[2, 3, 4, 6]: coo\n"

// prog is the program of a text.
func prog(t *testing.T, text string) api.Prog {
	t.Helper()
	p, at, e := notation.Parse(text)
	if e != api.OK {
		t.Fatalf("%q: error %d at %d", text, e, at)
	}
	return p
}

// line is the statement of a text.
func line(t *testing.T, text string) api.Stmt {
	t.Helper()
	return prog(t, text).S[0]
}

// names are the words of a text.
func names(text string) []string { return strings.Fields(text) }

// tall is a part below opposites, so deep in all; tree is a product of so many of one part.
func tall(deep int, part api.Node) api.Node {
	for range deep - 1 {
		part = neg(part)
	}
	return part
}

func tree(many int, part func(k int) api.Node) api.Node {
	if many == 1 {
		return part(0)
	}
	return mul(tree(many/2, part), tree(many-many/2, func(k int) api.Node { return part(k + many/2) }))
}

// badNodes may not be.
func badNodes() []api.Node {
	one := []api.Node{{Op: api.NegN}}
	one[0].L = one
	two := []api.Node{{Op: api.AddN}, {Op: api.AddN}}
	two[0].L, two[1].L = two, two
	twice := num(1)
	for range 300 {
		twice = add(twice, twice)
	}
	return []api.Node{
		{}, {Op: 8}, {Op: -1}, num(-1), num(api.MaxN), ref(""), ref("sum"), ref("a", "tensor"), ref("a", "i", "j", "k", "l", "m"), {Op: api.AddN}, {Op: api.SubN, L: []api.Node{num(1)}},
		{Op: api.NegN}, {Op: api.NegN, L: []api.Node{num(1), num(1)}}, {Op: api.SumN, Name: "i"}, {Op: api.MulN, N: 1, L: []api.Node{num(1), num(1)}}, {Op: api.RefN, Name: "a", L: []api.Node{num(1)}},
		sum("2", ref("a", "2")), tall(17, num(1)), tall(100000, ref("a")), tree(61, func(int) api.Node { return num(1) }), one[0], two[0], twice,
	}
}

// badDecls may not be; each is one that could be told, but for one thing.
func badDecls() []api.Decl {
	return []api.Decl{
		{}, {Form: "dense"}, {Name: "sum", Form: "dense"}, {Name: "tensor", Form: "dense"}, {Name: "1", Form: "dense"}, {Name: "abcdefghijklmnopq", Form: "dense"}, {Name: "z"}, {Name: "z", Form: "?"},
		{Name: "z", Form: "csr 2", Shape: []int{2, 2}}, {Name: "z", Form: "dense", Shape: []int{-1}}, {Name: "z", Form: "dense", Shape: []int{api.MaxN}}, {Name: "z", Form: "csf", Shape: []int{1, 1, 1, 1, 1}},
		{Name: "z", Form: "dense", Block: -1}, {Name: "z", Form: "dense", Block: api.MaxN}, {Name: "z", Form: "csf", Shape: make([]int, 100000)},
	}
}

// P10.1

func TestTensor(t *testing.T) {
	d := []api.Decl{{Name: "a", Shape: []int{2}, Form: "csf", Block: 1}, {Name: "b", Shape: []int{3, 4}, Form: "csr"}, {Name: "a", Shape: []int{5}, Form: "coo"}, {}, {Name: "b"}, {Name: "sum", Shape: []int{-1}, Form: "?"}}
	for k, name := range []string{"a", "b", "", "sum"} {
		want := d[[]int{0, 1, 3, 5}[k]]
		x, is := shape.Tensor(name, d...)
		if !is || x.Name != want.Name || !slices.Equal(x.Shape, want.Shape) || x.Form != want.Form || x.Block != want.Block {
			t.Errorf("Tensor of %q: got %v, %v; want %v", name, x, is, want)
		}
	}
	for _, name := range []string{"c", "A", " a", "a ", "aa", "tensor", "\x00"} {
		if x, is := shape.Tensor(name, d...); is || x.Name != "" || x.Shape != nil || x.Form != "" || x.Block != 0 {
			t.Errorf("Tensor of %q: got %v, %v", name, x, is)
		}
	}
	if x, is := shape.Tensor(""); is || x.Shape != nil {
		t.Errorf("Tensor of none: got %v, %v", x, is)
	}
}

func wantForm(t *testing.T, d api.Decl) {
	t.Helper()
	want, e := formOf(d)
	if f, got := shape.Form(d); got != e || !slices.Equal(f, want) || e != api.OK && f != nil {
		t.Errorf("Form of %s, %v, %d: got %v, error %d; want %v, error %d", d.Form, d.Shape, d.Block, f, got, want, e)
	}
}

func TestForm(t *testing.T) {
	sizes := []int{0, 1, 2, 6, -1, math.MinInt, 1 << 31, 1<<31 + 1, 1 << 32, math.MaxInt}
	for _, form := range []string{"dense", "coo", "csf", "csr", "csc", "dcsr", "dcsc", "bsr", "", "Dense", "bsr2", "csr ", "dense\x00"} {
		for _, block := range []int{0, 1, 2, 3, -1, 1 << 31, 1 << 32, math.MinInt, math.MaxInt} {
			for rank := range 7 {
				wantForm(t, api.Decl{Form: form, Shape: slices.Repeat([]int{6}, rank), Block: block})
			}
			for _, m := range sizes {
				for _, n := range sizes {
					wantForm(t, api.Decl{Name: "a", Form: form, Shape: []int{m, n}, Block: block})
				}
				wantForm(t, api.Decl{Form: form, Shape: []int{m}, Block: block})
				wantForm(t, api.Decl{Form: form, Shape: []int{3, m, 0, 3}, Block: block})
			}
		}
	}
}

func TestFormOfItsErrors(t *testing.T) {
	for _, x := range []struct {
		d api.Decl
		e api.Errno
	}{
		{api.Decl{Form: "csf", Shape: []int{1, 2, 3, 4, 5}}, api.ErrArg}, {api.Decl{Form: "none", Shape: make([]int, 5)}, api.ErrArg}, {api.Decl{Form: "none", Shape: []int{-1}}, api.ErrNone},
		{api.Decl{Form: "coo"}, api.ErrNone}, {api.Decl{Form: "csr", Shape: []int{2}}, api.ErrNone}, {api.Decl{Form: "bsr", Shape: []int{2, 2, 2}, Block: 2}, api.ErrNone}, {api.Decl{Form: "bsr", Shape: []int{2, 2}}, api.ErrArg},
		{api.Decl{Form: "bsr", Shape: []int{4, 3}, Block: 2}, api.ErrShape}, {api.Decl{Form: "bsr", Shape: []int{0, 0}, Block: 2}, api.OK}, {api.Decl{Form: "dense", Shape: []int{-1, 1 << 62}}, api.ErrArg},
		{api.Decl{Form: "dense", Shape: []int{1 << 31, 1 << 31}}, api.ErrLarge}, {api.Decl{Form: "dense", Shape: []int{1 << 31, 1<<31 - 1}}, api.OK}, {api.Decl{Form: "dense", Shape: []int{0, 1 << 32}}, api.ErrLarge},
		{api.Decl{Form: "bsr", Shape: []int{1 << 32, 2}, Block: 2}, api.OK}, {api.Decl{Form: "csr", Shape: []int{2, 2}, Block: -7}, api.OK}, {api.Decl{Form: "bsr", Shape: []int{1 << 33, 1 << 33}, Block: 3}, api.ErrLarge},
	} {
		if f, e := shape.Form(x.d); e != x.e || (f != nil) != (e == api.OK) {
			t.Errorf("Form of %v: got %v, error %d; want error %d", x.d, f, e, x.e)
		}
	}
	if f, e := shape.Form(api.Decl{Form: "dense"}); e != api.OK || len(f) != 0 {
		t.Errorf("Form of no modes: got %v, error %d", f, e)
	}
}

func wantDecls(t *testing.T, n int, want api.Errno, d ...api.Decl) {
	t.Helper()
	if got, e := shape.Decls(d...); got != n || e != want {
		t.Errorf("Decls of %d: got %d, error %d; want %d, error %d", len(d), got, e, n, want)
	}
}

func TestDecls(t *testing.T) {
	wantDecls(t, 0, api.OK)
	d := prog(t, told).D
	for k := range d {
		wantDecls(t, k, api.OK, d[:k]...)
		wantDecls(t, 7, api.ErrName, append(slices.Clone(d), d[k])...)
		wantDecls(t, k+1, api.ErrName, append(slices.Clone(d[:k+1]), api.Decl{Name: d[k].Name, Form: "none"})...)
		wantDecls(t, k+1, api.ErrArg, append(slices.Clone(d[:k+1]), api.Decl{Name: d[k].Name, Form: "?"}, d[0])...)
		wantDecls(t, k+1, api.ErrNone, append(slices.Clone(d[:k+1]), api.Decl{Name: "z", Form: "none"}, api.Decl{})...)
		wantDecls(t, k+1, api.ErrLarge, append(slices.Clone(d[:k+1]), api.Decl{Name: "z", Form: "csr", Shape: []int{1 << 31, 1 << 31}}, d[k])...)
		wantDecls(t, k, api.ErrShape, append(slices.Clone(d[:k]), api.Decl{Name: "z", Form: "bsr", Shape: []int{2, 3}, Block: 2}, api.Decl{Name: "z", Form: "csf"})...)
		wantDecls(t, k, api.ErrArg, append(slices.Clone(d[:k]), api.Decl{Name: "z", Form: "bsr", Shape: []int{2, 2}}, d[k])...)
	}
	for _, x := range badDecls() {
		wantDecls(t, 0, api.ErrArg, x)
		wantDecls(t, 7, api.ErrArg, append(slices.Clone(d), x, d[0])...)
		wantDecls(t, 1, api.ErrName, d[0], d[0], x)
	}
	// A tensor that is no good is no reason to tell it anew.
	wantDecls(t, 0, api.ErrNone, api.Decl{Name: "z", Form: "none"}, api.Decl{Name: "z", Form: "csf"})
}

func TestDeclsOfMoreThanAProgramHas(t *testing.T) {
	var d []api.Decl
	for k := range 20000 {
		d = append(d, api.Decl{Name: "a" + strconv.Itoa(k), Form: "csf", Shape: []int{k}})
	}
	wantDecls(t, 20000, api.OK, d...)
	wantDecls(t, 33, api.OK, d[:33]...)
	wantDecls(t, 20000, api.ErrName, append(d, d[19000])...)
	l, e := shape.Sizes(stmt("a19999", names("i"), num(1)), d...)
	if e != api.OK || !slices.Equal(l, []api.Dim{{Name: "i", Size: 19999}}) {
		t.Errorf("Sizes of many: got %v, error %d", l, e)
	}
}

// P10.2

func wantSizes(t *testing.T, s api.Stmt, d []api.Decl, want []api.Dim, e api.Errno) {
	t.Helper()
	if l, got := shape.Sizes(s, d...); got != e || !slices.Equal(l, want) || e != api.OK && l != nil {
		text, _ := notation.Text(api.Prog{S: []api.Stmt{s}})
		t.Errorf("Sizes of %q: got %v, error %d; want %v, error %d", text, l, got, want, e)
	}
}

func TestSizes(t *testing.T) {
	d := prog(t, told).D
	i, j, k, l := api.Dim{Name: "i", Size: 2}, api.Dim{Name: "j", Size: 3}, api.Dim{Name: "k", Size: 4}, api.Dim{Name: "l", Size: 6}
	for _, x := range []struct {
		s    string
		want []api.Dim
	}{
		{"s[] = 1", nil}, {"s[] = s[]", nil}, {"a[i] = 1", []api.Dim{i}}, {"b[i, j] = 1", []api.Dim{i, j}}, {"x[i, j, k, l] = - 1", []api.Dim{i, j, k, l}}, {"m[k, l] = a[i] * c[j]", []api.Dim{k, l, i, j}},
		{"s[] = c[j] * a[i]", []api.Dim{j, i}}, {"c[j] = b[i, j] * a[i]", []api.Dim{j, i}}, {"a[i] = m[k, l] + c[j] - a[i]", []api.Dim{i, k, l, j}}, {"s[] = q[j, j]", []api.Dim{j}},
		// An index of a sum stands where a tensor has it, not where it is told.
		{"s[] = sum(j, b[i, j])", []api.Dim{i, j}}, {"s[] = sum(l, a[i] * sum(j, c[j] * m[k, l]))", []api.Dim{i, j, k, l}}, {"a[i] = sum(i, a[i])", []api.Dim{i}}, {"s[] = sum(i, sum(i, a[i]))", []api.Dim{i}},
		{"s[] = sum(i, a[i]) + sum(i, a[i]) * a[i]", []api.Dim{i}}, {"a[a] = b[a, b] * c[b]", []api.Dim{{Name: "a", Size: 2}, {Name: "b", Size: 3}}},
	} {
		wantSizes(t, line(t, x.s), d, x.want, api.OK)
	}
	empty := prog(t, "tensor e[0]: dense\ntensor f[0, 999999999]: csr").D
	wantSizes(t, line(t, "e[i] = f[i, k]"), empty, []api.Dim{{Name: "i"}, {Name: "k", Size: 999999999}}, api.OK)
}

func TestSizesOfWhatGoesNotTogether(t *testing.T) {
	d := prog(t, told).D
	for _, x := range []struct {
		s string
		e api.Errno
	}{
		// The target, ahead of all else: its name, its modes, an index that stands twice.
		{"z[] = 1", api.ErrName}, {"z[i, i] = a[]", api.ErrName}, {"a[] = 1", api.ErrRank}, {"a[i, i] = 1", api.ErrRank}, {"a[i, j] = z[]", api.ErrRank}, {"s[i] = 1", api.ErrRank}, {"q[i, i] = 1", api.ErrName}, {"b[i, i] = 1", api.ErrName},
		{"q[i, i] = a[]", api.ErrName}, {"x[i, j, k, i] = 1", api.ErrName}, {"x[i, j, j, k] = c[i]", api.ErrName}, {"q[i, i] = sum(k, 1)", api.ErrName}, {"a[i] = c[i]", api.ErrShape},
		// The tensors, from the left.
		{"a[i] = z[i]", api.ErrName}, {"a[i] = b[i]", api.ErrRank}, {"a[i] = a[]", api.ErrRank}, {"s[] = s[i]", api.ErrRank}, {"s[] = b[i, i]", api.ErrShape}, {"s[] = x[i, j, i, k]", api.ErrShape},
		{"s[] = z[] + a[]", api.ErrName}, {"s[] = a[] + z[]", api.ErrRank}, {"s[] = (a[i] - c[i]) * z[]", api.ErrShape}, {"s[] = a[i] * (z[] - c[i])", api.ErrName}, {"s[] = a[i] * - (a[] - c[i])", api.ErrRank},
		{"a[i] = b[j, i]", api.ErrShape}, {"s[] = sum(i, a[i]) + c[i]", api.ErrShape}, {"s[] = sum(i, a[i]) + sum(i, c[i])", api.ErrShape}, {"c[i] = sum(i, a[i])", api.ErrShape},
		// The sums, behind all tensors.
		{"s[] = sum(k, 1)", api.ErrNone}, {"s[] = sum(k, a[i])", api.ErrNone}, {"a[i] = sum(i, 1)", api.ErrNone}, {"a[i] = a[i] * sum(i, s[])", api.ErrNone}, {"s[] = sum(k, 1) + z[]", api.ErrName}, {"s[] = sum(k, 1) + a[]", api.ErrRank},
		{"s[] = sum(k, a[i]) * c[i]", api.ErrShape}, {"s[] = sum(i, sum(k, a[i]))", api.ErrNone}, {"s[] = sum(k, sum(i, a[i]))", api.ErrNone}, {"s[] = sum(i, a[i]) + - sum(i, c[j])", api.ErrNone}, {"s[] = sum(a, a[i])", api.ErrNone},
		{"s[] = sum(i, a[i] * sum(i, 2))", api.ErrNone},
	} {
		wantSizes(t, line(t, x.s), d, nil, x.e)
	}
}

func TestSizesOfWhatMayNotBe(t *testing.T) {
	d := prog(t, told).D
	for _, n := range badNodes() {
		wantSizes(t, stmt("a", names("i"), n), d, nil, api.ErrArg)
		wantSizes(t, stmt("z", nil, n), d, nil, api.ErrArg)
	}
	for _, s := range []api.Stmt{{}, stmt("", nil, num(1)), stmt("sum", nil, num(1)), stmt("x", names("i j k l m"), num(1)), stmt("a", []string{""}, num(1)), stmt("a", names("tensor"), num(1))} {
		wantSizes(t, s, d, nil, api.ErrArg)
	}
	good := line(t, "a[i] = b[i, k]")
	for _, x := range append(badDecls(), d[0], api.Decl{Name: "z", Form: "none"}, api.Decl{Name: "z", Form: "bsr", Shape: []int{2, 3}, Block: 2}, api.Decl{Name: "z", Form: "csf", Shape: []int{1 << 32}}) {
		wantSizes(t, good, append(slices.Clone(d), x), nil, api.ErrArg)
		wantSizes(t, good, append([]api.Decl{x}, d...), nil, api.ErrArg)
		wantSizes(t, stmt("z", nil, num(1)), append(slices.Clone(d), x, x), nil, api.ErrArg)
	}
	wantSizes(t, good, nil, nil, api.ErrName)
}

// P10.3

func wantProgram(t *testing.T, p api.Prog, n int, want api.Errno) {
	t.Helper()
	if got, e := shape.Program(p); got != n || e != want {
		t.Errorf("Program: got %d, error %d; want %d, error %d", got, e, n, want)
	}
	if want == api.OK {
		return
	}
	if l, e := shape.Inputs(p); l != nil || e != want {
		t.Errorf("Inputs: got %v, error %d; want error %d", l, e, want)
	}
	if l, e := shape.Outputs(p); l != nil || e != want {
		t.Errorf("Outputs: got %v, error %d; want error %d", l, e, want)
	}
}

func TestProgram(t *testing.T) {
	wantProgram(t, api.Prog{}, 0, api.OK)
	for _, x := range []struct {
		s string
		n int
		e api.Errno
	}{
		{told, 7, api.OK}, {told + "a[i] = 1", 8, api.OK}, {told + "a[i] = b[i, k]\ns[] = a[i] * a[i]\na[x] = 2", 10, api.OK}, {"z[] = 1", 0, api.ErrName}, {told + "z[] = 1", 7, api.ErrName},
		{told + "a[i] = 1\nz[] = 1\ns[i] = 2", 8, api.ErrName}, {told + "a[i] = 1\ns[] = 2\ns[i] = 3", 9, api.ErrRank}, {told + "a[i] = c[i]\nz[] = 1", 7, api.ErrShape}, {told + "a[i] = 1\ns[] = sum(i, 1)", 8, api.ErrNone},
		// Indices are each statement's own.
		{told + "a[i] = 1\nc[i] = 1\nm[i, a] = x[b, c, i, a]", 10, api.OK},
		// Tensors come ahead of statements.
		{told + "tensor a[2]: csf\nz[] = 1", 7, api.ErrName}, {"tensor a[2]: csr\n" + told + "z[] = 1", 0, api.ErrNone}, {told + "tensor z[3, 3]: bsr\nz[] = 1", 7, api.ErrArg}, {told + "tensor z[3, 3]: bsr 2", 7, api.ErrShape},
		{told + "tensor y[1]: csf\ntensor z[3000000000]: dense\na[] = 1", 8, api.ErrLarge},
	} {
		wantProgram(t, prog(t, x.s), x.n, x.e)
	}
}

func TestProgramThatMayNotBe(t *testing.T) {
	p := prog(t, told+"a[i] = 1\nz[] = 1")
	for _, n := range badNodes() {
		wantProgram(t, api.Prog{D: p.D, S: append(slices.Clone(p.S), stmt("a", names("i"), n))}, 0, api.ErrArg)
	}
	for _, d := range badDecls() {
		wantProgram(t, api.Prog{D: append(slices.Clone(p.D), p.D[0], d), S: p.S}, 0, api.ErrArg)
	}
	wantProgram(t, api.Prog{D: p.D, S: append(slices.Clone(p.S), api.Stmt{})}, 0, api.ErrArg)
	var d []api.Decl
	for k := range 33 {
		d = append(d, api.Decl{Name: "t" + strconv.Itoa(k), Form: "dense"})
	}
	many := slices.Repeat([]api.Stmt{stmt("t0", nil, ref("t31"))}, 33)
	wantProgram(t, api.Prog{D: d[:32], S: many[:32]}, 64, api.OK)
	wantProgram(t, api.Prog{D: d, S: many[:32]}, 0, api.ErrArg)
	wantProgram(t, api.Prog{D: d[:32], S: many}, 0, api.ErrArg)
}

// P10.4

func wantNormal(t *testing.T, s api.Stmt, want api.Node) {
	t.Helper()
	if n, e := shape.Normal(s); e != api.OK || !notation.Same(n, want) {
		t.Errorf("Normal of %v: got %v, error %d; want %v", s, n, e, want)
	}
}

func TestNormal(t *testing.T) {
	for _, x := range [][2]string{
		{"a[i] = b[i, k] * c[k] + d[i]", "sum(k, b[i, k] * c[k]) + d[i]"},
		{"s[] = 1", "1"}, {"s[] = a[]", "a[]"}, {"s[] = a[i]", "sum(i, a[i])"}, {"a[i] = a[i]", "a[i]"}, {"a[i] = 2 + b[k]", "2 + sum(k, b[k])"}, {"a[j] = b[i, j, k]", "sum(i, sum(k, b[i, j, k]))"},
		{"s[] = b[k, i] * c[j]", "sum(k, sum(i, sum(j, b[k, i] * c[j])))"}, {"s[] = c[j] * b[k, i]", "sum(j, sum(k, sum(i, c[j] * b[k, i])))"}, {"s[] = q[i, i] * a[i]", "sum(i, q[i, i] * a[i])"},
		{"s[] = a[i] - (b[i, j] + - c[j])", "sum(i, a[i]) - (sum(i, sum(j, b[i, j])) + - sum(j, c[j]))"}, {"a[i] = - - b[i, k]", "- - sum(k, b[i, k])"}, {"a[i] = - (b[k] - 3) - - (2 * b[k])", "- (sum(k, b[k]) - 3) - - sum(k, 2 * b[k])"},
		// A product is a term, whatever is in it.
		{"s[] = (a[i] + 2) * b[i]", "sum(i, (a[i] + 2) * b[i])"}, {"s[] = 2 * (a[i] - - b[j])", "sum(i, sum(j, 2 * (a[i] - - b[j])))"}, {"s[] = - a[i] * b[i]", "sum(i, - a[i] * b[i])"},
		// So is a sum that is written.
		{"s[] = sum(k, b[i, k] + c[j])", "sum(i, sum(j, sum(k, b[i, k] + c[j])))"}, {"a[i] = sum(k, b[i, k]) + sum(k, c[j] * b[j, k])", "sum(k, b[i, k]) + sum(j, sum(k, c[j] * b[j, k]))"}, {"s[] = - sum(i, sum(j, b[i, j]))", "- sum(i, sum(j, b[i, j]))"},
		{"a[i] = sum(i, a[i])", "sum(i, a[i])"}, {"s[] = sum(k, b[i, k]) * c[k]", "sum(i, sum(k, sum(k, b[i, k]) * c[k]))"}, {"s[] = c[k] * sum(k, b[i, k])", "sum(k, sum(i, c[k] * sum(k, b[i, k])))"}, {"s[] = sum(k, 2) + sum(k, a[i])", "sum(k, 2) + sum(i, sum(k, a[i]))"},
		// It is all the same whether tensors are told.
		{"z[i, i] = y[i, k] + y[k]", "sum(k, y[i, k]) + sum(k, y[k])"}, {"z[j] = y[i]", "sum(i, y[i])"},
	} {
		want, e := notation.Read(x[1])
		if e != api.OK {
			t.Fatalf("%q: error %d", x[1], e)
		}
		wantNormal(t, line(t, x[0]), want)
	}
}

func TestNormalBeyondTheBoundsOfExpressions(t *testing.T) {
	deep := mul(num(1), ref("a", "i", "j", "k", "l"))
	wantNormal(t, stmt("s", nil, tall(15, deep)), tall(15, around(names("i j k l"), deep)))
	wantNormal(t, stmt("s", names("j"), tall(15, deep)), tall(15, around(names("i k l"), deep)))
	var over []string
	for k := range 240 {
		over = append(over, "i"+strconv.Itoa(k))
	}
	wide := tree(60, func(k int) api.Node { return ref("a", over[4*k:4*k+4]...) })
	wantNormal(t, stmt("s", nil, wide), around(over, wide))
	wantNormal(t, stmt("s", names("i0 i239"), neg(wide)), neg(around(over[1:239], wide)))
}

func TestNormalOfWhatMayNotBe(t *testing.T) {
	bad := []api.Stmt{{}, stmt("", nil, num(1)), stmt("2", nil, num(1)), stmt("tensor", nil, num(1)), stmt("a", names("i j k l m"), num(1)), stmt("a", names("sum"), num(1))}
	for _, n := range badNodes() {
		bad = append(bad, stmt("a", names("i"), n))
	}
	for k, s := range bad {
		if n, e := shape.Normal(s); e != api.ErrArg || !notation.Same(n, api.Node{}) {
			t.Errorf("Normal of %d: got %v, error %d", k, n, e)
		}
	}
}

func wantNames(t *testing.T, p api.Prog, inputs, outputs []string) {
	t.Helper()
	if l, e := shape.Inputs(p); e != api.OK || !slices.Equal(l, inputs) {
		t.Errorf("Inputs: got %v, error %d; want %v", l, e, inputs)
	}
	if l, e := shape.Outputs(p); e != api.OK || !slices.Equal(l, outputs) {
		t.Errorf("Outputs: got %v, error %d; want %v", l, e, outputs)
	}
}

func TestInputsAndOutputs(t *testing.T) {
	wantNames(t, api.Prog{}, nil, nil)
	for _, x := range [][3]string{
		{"", "", ""}, {"s[] = 1", "", "s"}, {"s[] = a[i] * b[i, j] + a[i]", "a b", "s"}, {"s[] = b[i, j] + a[i]", "b a", "s"}, {"s[] = sum(i, - a[i])", "a", "s"},
		// What a target was ahead of its statement comes from outside, unless one ahead made it.
		{"a[i] = a[i]", "a", "a"}, {"a[i] = 1\na[i] = a[i]", "", "a"}, {"a[i] = a[i]\na[i] = a[i]", "a", "a"}, {"a[i] = b[i, k]\ns[] = a[i]", "b", "a s"}, {"s[] = a[i]\na[i] = b[i, k]", "a b", "s a"},
		{"c[i] = q[i, k] * c[k]\ns[] = c[i] * a[j]\na[i] = b[i, j] * c[j] + a[i]\nc[i] = q[i, i]", "q c a b", "c s a"}, {"s[] = 1\na[i] = 1\ns[] = 2\na[i] = 2", "", "s a"},
	} {
		wantNames(t, prog(t, told+x[0]), names(x[1]), names(x[2]))
	}
}
