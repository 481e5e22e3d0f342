package lattice_test

import (
	"math"
	"slices"
	"strconv"
	"strings"
	"testing"

	"purfle/api"
	"purfle/lattice"
	"purfle/notation"
)

// read is the expression of a text.
func read(t *testing.T, s string) api.Node {
	t.Helper()
	n, e := notation.Read(s)
	if e != api.OK {
		t.Fatalf("%q: error %d", s, e)
	}
	return n
}

// words are those of a text.
func words(s string) []string { return strings.Fields(s) }

// sets are those of a text: "0-2 1" are 0 and 2, and 1; "-" is the empty one.
func sets(s string) [][]int {
	l := [][]int{}
	for _, x := range strings.Fields(s) {
		set := []int{}
		for _, n := range strings.FieldsFunc(x, func(r rune) bool { return r == '-' }) {
			k, _ := strconv.Atoi(n)
			set = append(set, k)
		}
		l = append(l, set)
	}
	return l
}

// same tells whether two lists of sets are.
func same(a, b [][]int) bool { return slices.EqualFunc(a, b, slices.Equal[[]int]) }

// all is a text of so many parts, with a sign between; it is even, as from the left on it would be too deep.
func all(many int, sign string, part func() string) string {
	if many == 1 {
		return part()
	}
	return "(" + all(many/2, sign, part) + " " + sign + " " + all(many-many/2, sign, part) + ")"
}

// always is a part that is the same each time.
func always(s string) func() string { return func() string { return s } }

// P13.1

func TestTidy(t *testing.T) {
	for _, x := range []struct{ l, want string }{
		{"", ""}, {"-", "-"}, {"- -", "-"}, {"3", "3"}, {"3 3", "3"}, {"2-1-2", "1-2"}, {"1-2 2-1", "1-2"}, {"2 1", "1 2"}, {"1 - 2", "-"}, {"0-1-2 3-4 5", "5 3-4 0-1-2"},
		{"1-2 1", "1"}, {"1 1-2", "1"}, {"0-1-2 0-2", "0-2"}, {"0-1-2 0-1 0", "0"}, {"0-1 1-2 0-2", "0-1 0-2 1-2"}, {"0-1 1-2 0-2 0-1-2", "0-1 0-2 1-2"}, {"0-1-2 0-1-3 1", "1"}, {"0-1-2 0-1-3 2", "2 0-1-3"}, {"0-1-3 0-1-2 0-9 9-1", "0-9 1-9 0-1-2 0-1-3"},
		// Numbers are held against each other, not their digits.
		{"10 9 2", "2 9 10"}, {"1-10 1-9", "1-9 1-10"}, {"10-2 2-9 3-1", "1-3 2-9 2-10"}, {"1-2 12", "12 1-2"}, {"5-5-5-5 5-6 7-7", "5 7"}, {"4-3-2-1 2-4 1-1-1-3", "1-3 2-4"},
	} {
		if got := lattice.Tidy(sets(x.l)...); !same(got, sets(x.want)) {
			t.Errorf("Tidy of %s: got %v; want %s", x.l, got, x.want)
		}
	}
	least, most := math.MinInt, math.MaxInt
	if got := lattice.Tidy([]int{most, least, 0}, []int{-1, 0}, []int{most, -1}, []int{0, least}); !same(got, [][]int{{least, 0}, {-1, 0}, {-1, most}}) {
		t.Errorf("Tidy of numbers below 0: got %v", got)
	}
}

func TestTidyOfMany(t *testing.T) {
	// Sets of one number and another one, and more in which these stand.
	var l [][]int
	for k := range 6000 {
		l = append(l, []int{k + 1, 0}, []int{k + 1, -1, 0}, []int{0, k + 1, k + 1})
	}
	got := lattice.Tidy(l...)
	for k, set := range got {
		if !slices.Equal(set, []int{0, k + 1}) {
			t.Fatalf("got %v at %d", set, k)
		}
	}
	if len(got) != 6000 {
		t.Errorf("got %d", len(got))
	}
	long := make([]int, 1<<20)
	for k := range long {
		long[k] = -k % 1000
	}
	if got := lattice.Tidy(long, long[:999]); len(got) != 1 || len(got[0]) != 999 {
		t.Errorf("got %d of long ones", len(got))
	}
}

func TestMay(t *testing.T) {
	for _, x := range []struct {
		l     string
		there []int
		want  bool
	}{
		{"", nil, false}, {"", []int{1}, false}, {"-", nil, true}, {"-", []int{1}, true}, {"1", nil, false}, {"1", []int{1}, true}, {"1", []int{2}, false}, {"1 -", nil, true}, {"1-2", []int{1}, false}, {"1-2", []int{2}, false}, {"1-2", []int{2, 1}, true}, {"1-2", []int{3, 2, 7, 1}, true},
		{"1-2 3", []int{3}, true}, {"1-2 3", []int{1, 4}, false}, {"3 1-2", []int{1, 2}, true}, {"1-2 3-4", []int{2, 3}, false}, {"2-1-2-2", []int{1, 1, 2}, true}, {"9-8-7", []int{7, 9}, false}, {"12", []int{1, 2}, false},
	} {
		if got := lattice.May(sets(x.l), x.there...); got != x.want {
			t.Errorf("May of %s, %v there: got %v", x.l, x.there, got)
		}
	}
	if !lattice.May([][]int{{-1, math.MinInt}}, math.MinInt, -1) || lattice.May([][]int{{-1}}, 1) {
		t.Error("May of numbers below 0")
	}
}

func wantPoints(t *testing.T, n api.Node, index string, sparse []string, want [][]int, e api.Errno) {
	t.Helper()
	if got, is := lattice.Points(n, index, sparse...); is != e || !same(got, want) {
		s, _ := notation.Write(n)
		t.Errorf("Points of %q at %q, sparse %v: got %v, error %d; want %v, error %d", s, index, sparse, got, is, want, e)
	}
}

func TestPoints(t *testing.T) {
	for _, x := range []struct{ s, sparse, want string }{
		{"3", "a", "-"}, {"0", "", "-"}, {"a[i]", "a", "0"}, {"a[i]", "", "-"}, {"a[i]", "b", "-"}, {"a[i]", "b a a", "0"}, {"a[k]", "a", "-"}, {"a[]", "a", "-"}, {"a[i, i]", "a", "0"}, {"a[k, j, i]", "a", "0"}, {"i[k]", "i a", "-"}, {"A[i]", "a", "-"},
		{"a[i] + b[i]", "a b", "0 1"}, {"a[i] - b[i]", "a b", "0 1"}, {"a[i] + b[i]", "a", "-"}, {"a[i] + b[k]", "a b", "-"}, {"a[i] - 0", "a", "-"}, {"a[i] * b[i]", "a b", "0-1"}, {"a[i] * b[i]", "b", "1"}, {"a[i] * 0", "a", "0"}, {"2 * 3", "a", "-"}, {"- a[i]", "a", "0"}, {"- - 1", "a", "-"},
		// A tensor is what stands at a place: each one of its places by itself.
		{"a[i] + a[i]", "a", "0 1"}, {"a[i] * a[i]", "a", "0-1"}, {"a[k] * a[i]", "a", "1"}, {"c[k] * (d[k] + b[i]) * b[i]", "b c d", "3"},
		{"a[i] * b[i] + c[i]", "a b c", "2 0-1"}, {"c[i] + a[i] * b[i]", "a b c", "0 1-2"}, {"a[i] * (b[i] + c[i])", "a b c", "0-1 0-2"}, {"(a[i] + b[i]) * (c[i] - d[i])", "a b c d", "0-2 0-3 1-2 1-3"}, {"(a[i] + b[i] * c[i]) * (d[i] + 1)", "a b c d", "0 1-2"}, {"(a[i] + b[k]) * (c[i] + 2)", "a b c", "-"},
		{"a[i] * b[i] * c[i] + d[i] * a[i] + b[i]", "a b c d", "5 3-4 0-1-2"}, {"a[i] * (b[i] * (c[i] + d[i]) + c[i])", "a b c d", "0-4 0-1-2 0-1-3"}, {"- (a[i] - - b[i]) * - c[i]", "a b c", "0-2 1-2"},
		// A sum over the index itself is free of it; its tensors count on.
		{"sum(k, a[i, k])", "a", "0"}, {"sum(i, a[i])", "a", "-"}, {"sum(i, a[i]) * b[i]", "a b", "1"}, {"b[i] * sum(i, a[i] * b[i]) * c[i]", "a b c", "0-3"}, {"sum(k, sum(i, a[i, k] + c[i]) * b[i, k])", "a b c", "2"}, {"sum(i, sum(k, a[i, k]))", "a", "-"}, {"sum(k, a[k]) + b[i]", "a b", "-"}, {"sum(i, a[i]) + b[i]", "a b", "-"}, {"sum(i, 1) * sum(j, 2)", "", "-"}, {"sum(k, a[i, k] * b[k, i])", "a b", "0-1"},
	} {
		wantPoints(t, read(t, x.s), "i", words(x.sparse), sets(x.want), api.OK)
	}
	// An index may be any text, be it a name or not.
	n := read(t, "a[i] * b[]")
	for _, index := range []string{"", "0", "sum", "a", "i ", "I", strings.Repeat("i", 100000)} {
		wantPoints(t, n, index, []string{"a", "b", "", "sum"}, [][]int{nil}, api.OK)
	}
}

func TestPointsTooMany(t *testing.T) {
	two, four := always("(a[i] + a[i])"), always("(a[i] + a[i] + a[i] + a[i])")
	eight, nine := all(8, "*", two), all(9, "*", two)
	for _, x := range []struct {
		s    string
		want int
	}{
		{eight, 256}, {nine, -1}, {all(4, "*", four), 256}, {eight + " * a[i]", 256}, {eight + " * 2", 256}, {"- " + eight, 256}, {"sum(k, " + eight + ")", 256}, {"sum(k, - - " + nine + ")", -1},
		{eight + " + a[i]", -1}, {eight + " - a[i]", -1}, {"a[i] - " + eight, -1}, {all(7, "*", two) + " + " + all(7, "*", two), 256}, {all(7, "*", two) + " + " + all(7, "*", two) + " - a[i]", -1}, {all(5, "*", two) + " * (a[i] + a[i] + a[i])", 96}, {"(a[i] + a[i] + a[i]) * " + all(3, "*", two) + " * " + all(3, "*", four), -1},
		// Ahead of being tidy: one more of the empty set alone.
		{eight + " + 1", -1}, {"1 - " + eight, -1}, {all(7, "*", two) + " + 1", 1}, {"(" + all(7, "*", two) + " + 1) * " + eight, 256}, {"(" + eight + " + 1) * " + two(), -1},
		// At any part, be it below a sum over the index itself, or beside what is free.
		{"0 * " + nine, -1}, {"sum(i, " + nine + ")", -1}, {"sum(i, " + eight + ")", 1}, {"sum(i, " + eight + ") + " + eight, -1}, {"sum(i, " + eight + ") * " + eight, 256}, {"b[i] * " + eight + " * b[i]", 256}, {all(60, "*", always("a[i]")), 1}, {all(60, "+", always("a[i]")), 60}, {all(60, "+", always("b[i]")), 1}, {all(60, "*", always("1")), 1},
	} {
		n := read(t, x.s)
		got, e := lattice.Points(n, "i", "a")
		if x.want < 0 && (len(got) > 0 || e != api.ErrLarge) || x.want >= 0 && (len(got) != x.want || e != api.OK) {
			t.Errorf("Points of %s: got %d, error %d; want %d", x.s, len(got), e, x.want)
		}
		if x.want >= 0 && !same(got, tidyOf(got)) {
			t.Errorf("Points of %s are not tidy: %v", x.s, got)
		}
		// None is too many of another index, where no tensor must be.
		wantPoints(t, n, "j", []string{"a"}, [][]int{nil}, api.OK)
	}
}

// badNodes may not be; the last ones stand in themselves.
func badNodes() []api.Node {
	one, a := api.Node{Op: api.NumN, N: 1}, api.Node{Op: api.RefN, Name: "a", Index: []string{"i"}}
	l := []api.Node{
		{}, {Op: 8}, {Op: -1}, {Op: api.NumN, N: -1}, {Op: api.NumN, N: api.MaxN}, {Op: api.NumN, L: []api.Node{one}}, {Op: api.RefN}, {Op: api.RefN, Name: "sum", Index: []string{"i"}}, {Op: api.RefN, Name: "a", Index: []string{"i", "0"}}, {Op: api.RefN, Name: "a", Index: []string{"i", "i", "i", "i", "i"}}, {Op: api.RefN, Name: "a", L: []api.Node{a}},
		{Op: api.AddN}, {Op: api.MulN, L: []api.Node{a}}, {Op: api.SubN, L: []api.Node{a, a, a}}, {Op: api.NegN}, {Op: api.NegN, L: []api.Node{a, a}}, {Op: api.SumN, L: []api.Node{a}}, {Op: api.SumN, Name: "i"}, {Op: api.SumN, Name: "i", L: []api.Node{a, a}}, {Op: api.MulN, L: []api.Node{a, {}}}, {Op: api.SumN, Name: "i", L: []api.Node{{Op: api.AddN}}},
	}
	deep := a
	for range 16 {
		deep = api.Node{Op: api.NegN, L: []api.Node{deep}}
	}
	// As wide as none may be, and with many more points than there may be.
	wide := api.Node{Op: api.AddN, L: []api.Node{a, a}}
	for range 7 {
		wide = api.Node{Op: api.MulN, L: []api.Node{wide, wide}}
	}
	l = append(l, deep, wide)
	for _, op := range []int{api.NegN, api.SumN, api.MulN, api.AddN, api.RefN} {
		within := []api.Node{{Op: op, Name: "i"}, a}
		within[0].L = within
		l = append(l, within[0])
	}
	return l
}

func TestOfNoExpression(t *testing.T) {
	for k, n := range badNodes() {
		if got, e := lattice.Points(n, "i", "a"); len(got) > 0 || e != api.ErrArg {
			t.Errorf("Points of bad node %d: got %v, error %d", k, got, e)
		}
		if lattice.Holds(n, "i", []int{0, 1, 2}, "b") || lattice.Holds(n, "i", nil) {
			t.Errorf("Holds of bad node %d: got true", k)
		}
	}
}

// P13.2

func TestHolds(t *testing.T) {
	for _, x := range []struct {
		s, sparse string
		there     []int
		want      bool
	}{
		{"0", "a", nil, true}, {"3", "", []int{0}, true}, {"a[i]", "a", nil, false}, {"a[i]", "a", []int{0}, true}, {"a[i]", "a", []int{1}, false}, {"a[i]", "a", []int{1, -1, 0, 0, 99}, true}, {"a[i]", "", nil, true}, {"a[i]", "b", nil, true}, {"a[k]", "a", nil, true}, {"a[k, i]", "a", nil, false}, {"i[k]", "i", nil, true}, {"a[i]", "b b a", nil, false},
		{"a[i] + b[i]", "a b", nil, false}, {"a[i] + b[i]", "a b", []int{1}, true}, {"a[i] - b[i]", "a b", []int{0}, true}, {"a[i] - b[i]", "a b", []int{2}, false}, {"a[i] + b[i]", "a", nil, true}, {"a[i] * b[i]", "a b", []int{1}, false}, {"a[i] * b[i]", "a b", []int{0}, false}, {"a[i] * b[i]", "a b", []int{1, 0}, true}, {"a[i] * b[i]", "a", []int{0}, true}, {"a[i] * b[i]", "a", []int{1}, false}, {"- a[i]", "a", nil, false}, {"- a[i]", "a", []int{0}, true},
		{"a[i] - a[i]", "a", []int{1}, true}, {"a[i] * a[i]", "a", []int{1}, false}, {"a[i] * 0", "a", []int{0}, true}, {"0 + a[i]", "a", nil, true}, {"a[i] * b[i] + c[i]", "a b c", []int{0, 2}, true}, {"a[i] * b[i] + c[i]", "a b c", []int{0}, false}, {"a[i] * (b[i] + c[i])", "a b c", []int{2, 1}, false}, {"a[i] * (b[i] + c[i])", "a b c", []int{2, 0}, true},
		{"sum(k, a[i, k])", "a", nil, false}, {"sum(k, a[i, k])", "a", []int{0}, true}, {"sum(i, a[i])", "a", nil, true}, {"sum(i, a[i]) * b[i]", "a b", []int{0}, false}, {"sum(i, a[i] * c[i]) * b[i]", "a b c", []int{2}, true}, {"a[i] + sum(i, b[i]) * c[i]", "a b c", []int{1}, false}, {"a[i] + sum(i, b[i]) * c[i]", "a b c", []int{2}, true},
		// Its tensors are numbered on, be it clear already what comes of it.
		{"(1 + a[i]) * b[i]", "a b", []int{1}, true}, {"(1 + a[i]) * b[i]", "a b", []int{0}, false}, {"a[i] * b[i] + c[i] * d[i]", "a b c d", []int{2, 3}, true}, {"a[i] * b[i] + c[i] * d[i]", "a b c d", []int{1, 2}, false}, {"a[i] * b[i] + c[i]", "a b c", []int{1}, false},
	} {
		if got := lattice.Holds(read(t, x.s), "i", x.there, words(x.sparse)...); got != x.want {
			t.Errorf("Holds of %q, sparse %s, %v there: got %v", x.s, x.sparse, x.there, got)
		}
	}
	if n := read(t, "a[i] * b[]"); !lattice.Holds(n, "", nil, "a", "b", "") || !lattice.Holds(n, "a", nil, "a", "b") {
		t.Error("an index that stands nowhere is asked for")
	}
	// It has far more points than may be, and holds or not all the same.
	n := read(t, all(12, "*", always("(a[i] + a[i])")))
	there := []int{0, 3, 4, 7, 8, 10, 13, 14, 17, 18, 20, 23}
	if !lattice.Holds(n, "i", there, "a") || lattice.Holds(n, "i", there[1:], "a") || lattice.Holds(n, "i", there[:11], "a") {
		t.Error("Holds of a large one")
	}
}

// P13.3

// told are the tensors of most tests.
const told = `tensor s[]: dense
tensor v[]: csf
tensor a[2]: csf
tensor l[4]: coo
tensor f[3]: dense
tensor b[2, 3]: csr
tensor c[3, 2]: csc
tensor d[2, 2]: dcsc
tensor e[2, 3]: dcsr
tensor g[0, 2]: csc
tensor m[4, 6]: bsr 2
tensor x[2, 3, 4]: coo
tensor y[2, 3, 4, 5]: csf
tensor z[2, 3, 2, 1]: dense
`

// badly are tensors that are told, but have no form.
func badly() []api.Decl {
	return []api.Decl{
		{Name: "p", Shape: []int{2}, Form: "csr"}, {Name: "q", Shape: []int{3, 3}, Form: "bsr", Block: 2}, {Name: "r", Shape: []int{4, 4}, Form: "bsr"}, {Name: "t", Shape: []int{1 << 32, 2}, Form: "csc"}, {Name: "u", Shape: []int{1 << 31, 1 << 31}, Form: "csr"},
		{Name: "w", Shape: []int{-1, 2}, Form: "csr"}, {Name: "sum", Shape: []int{2, 2}, Form: "csr"}, {Name: "n0", Shape: []int{2, 2}, Form: "csr2"}, {Name: "2", Shape: []int{2, 2}, Form: "csr"},
	}
}

// decls are all of these.
func decls(t *testing.T) []api.Decl {
	t.Helper()
	p, at, e := notation.Parse(told)
	if e != api.OK {
		t.Fatalf("error %d at %d", e, at)
	}
	return append(p.D, badly()...)
}

func wantModes(t *testing.T, d api.Decl, want []int, e api.Errno) {
	t.Helper()
	if got, is := lattice.Modes(d); is != e || !slices.Equal(got, want) {
		t.Errorf("Modes of %v: got %v, error %d; want %v, error %d", d, got, is, want, e)
	}
}

func TestModes(t *testing.T) {
	for _, x := range []struct {
		name string
		want []int
	}{{"s", nil}, {"v", nil}, {"a", []int{0}}, {"l", []int{0}}, {"f", []int{0}}, {"b", []int{0, 1}}, {"c", []int{1, 0}}, {"d", []int{1, 0}}, {"e", []int{0, 1}}, {"g", []int{1, 0}}, {"m", []int{0, 1}}, {"x", []int{0, 1, 2}}, {"y", []int{0, 1, 2, 3}}, {"z", []int{0, 1, 2, 3}}} {
		l := decls(t)
		wantModes(t, l[slices.IndexFunc(l, func(d api.Decl) bool { return d.Name == x.name })], x.want, api.OK)
	}
	for _, x := range []struct {
		d api.Decl
		e api.Errno
	}{
		{api.Decl{}, api.ErrArg}, {api.Decl{Name: "a"}, api.ErrArg}, {api.Decl{Form: "dense"}, api.ErrArg}, {api.Decl{Name: "sum", Form: "dense"}, api.ErrArg}, {api.Decl{Name: "a b", Form: "dense"}, api.ErrArg}, {api.Decl{Name: "a", Form: "a b"}, api.ErrArg}, {api.Decl{Name: "a", Form: "csf", Shape: []int{-1}}, api.ErrArg}, {api.Decl{Name: "a", Form: "csf", Shape: []int{api.MaxN}}, api.ErrArg}, {api.Decl{Name: "a", Form: "dense", Shape: make([]int, 5)}, api.ErrArg}, {api.Decl{Name: "a", Form: "dense", Block: -1}, api.ErrArg},
		{api.Decl{Name: "a", Form: "none"}, api.ErrNone}, {api.Decl{Name: "a", Form: "coo"}, api.ErrNone}, {api.Decl{Name: "a", Form: "csr", Shape: []int{2}}, api.ErrNone}, {api.Decl{Name: "a", Form: "csc", Shape: []int{2, 2, 2}}, api.ErrNone}, {api.Decl{Name: "a", Form: "bsr", Shape: []int{4, 4}}, api.ErrArg}, {api.Decl{Name: "a", Form: "bsr", Shape: []int{4, 3}, Block: 2}, api.ErrShape}, {api.Decl{Name: "a", Form: "csf", Shape: []int{1<<31 + 1}}, api.ErrLarge}, {api.Decl{Name: "a", Form: "csf", Shape: []int{1 << 31, 1 << 31}}, api.ErrLarge},
		// Notation's comes first.
		{api.Decl{Name: "tensor", Form: "none"}, api.ErrArg}, {api.Decl{Name: "a", Form: "none", Shape: []int{-1}}, api.ErrArg}, {api.Decl{Name: "a", Form: "csr", Block: -1}, api.ErrArg},
	} {
		wantModes(t, x.d, nil, x.e)
	}
	wantModes(t, api.Decl{Name: "a", Form: "csf", Shape: []int{1 << 31}}, []int{0}, api.OK)
	wantModes(t, api.Decl{Name: "a", Form: "bsr", Shape: []int{4, 6}, Block: 2}, []int{0, 1}, api.OK)
}

// term is that of a text: "a.i b.i.k" is a at i, and b at i, k.
func term(s string) api.Term {
	t := api.Term{K: 1}
	for _, f := range strings.Fields(s) {
		l := strings.Split(f, ".")
		t.F = append(t.F, api.Factor{Name: l[0], Index: l[1:]})
	}
	return t
}

// wantOrder asks for Order, and for Cycle, which hangs on no first indices.
func wantOrder(t *testing.T, x api.Term, first []string, d []api.Decl, want []string, e api.Errno) {
	t.Helper()
	if got, is := lattice.Order(x, first, d...); is != e || !slices.Equal(got, want) {
		t.Errorf("Order of %v, first %v: got %v, error %d; want %v, error %d", x, first, got, is, want, e)
	}
	cycle, none := e == api.ErrArg, api.OK
	if e == api.ErrNone {
		none = e
	}
	if got, is := lattice.Cycle(x, d...); got != cycle || is != none {
		t.Errorf("Cycle of %v: got %v, error %d; want %v, error %d", x, got, is, cycle, none)
	}
}

func TestOrder(t *testing.T) {
	d := decls(t)
	for _, x := range []struct{ t, first, want string }{
		{"", "", ""}, {"", "i j", ""}, {"s v", "i", ""}, {"a.i", "", "i"}, {"a.i", "j i k", "i"}, {"a.i f.k", "", "i k"}, {"a.i f.k", "k", "k i"}, {"a.i f.k", "k i", "k i"}, {"a.i f.k l.j", "j i j i", "j i k"}, {"s a.i v", "i i i", "i"},
		// Each tensor's as its levels go, whatever comes first.
		{"b.i.k", "", "i k"}, {"b.i.k", "k i", "i k"}, {"c.i.k", "", "k i"}, {"c.i.k", "i k", "k i"}, {"d.i.k", "i", "k i"}, {"e.i.k", "k", "i k"}, {"m.i.k", "k", "i k"}, {"g.i.k", "", "k i"}, {"x.i.j.k", "k j i", "i j k"}, {"y.l.k.j.i", "i j", "l k j i"}, {"z.l.k.j.i", "", "l k j i"},
		{"b.i.k e.k.j", "i j", "i k j"}, {"b.i.k c.k.j", "i j", "i j k"}, {"b.i.k c.k.j", "j i", "j i k"}, {"b.i.k c.k.j", "", "i j k"}, {"c.i.k c.k.j", "i j", "j k i"}, {"b.i.k b.j.k", "j i", "j i k"}, {"b.i.j b.k.l", "l j", "i j k l"}, {"b.i.j b.k.l", "", "i j k l"}, {"b.k.l b.i.j", "j", "k l i j"}, {"b.k.l a.j b.i.l", "", "k j i l"},
		// The others come as they stand first, not as the levels go.
		{"c.i.k a.j", "", "k i j"}, {"a.j c.i.k", "", "j k i"}, {"c.i.k a.i a.k", "", "k i"}, {"c.i.k a.j", "j", "j k i"}, {"x.i.j.k a.l", "l k", "l i j k"},
		// An index in a tensor twice comes not behind itself.
		{"d.j.j", "", "j"}, {"b.i.i a.i", "k i", "i"}, {"x.i.i.j", "j", "i j"}, {"x.j.i.i", "i", "j i"}, {"y.i.i.i.i", "", "i"}, {"y.i.i.k.k", "k", "i k"}, {"m.j.j b.i.j", "j", "i j"},
		// Whatever an index is called.
		{"b.0.1", "1 0", "0 1"}, {"b.0.i a.1", "i", "0 i 1"}, {"b.. a.", "i", ""}, {"b.sum.é", "é", "sum é"},
	} {
		want := words(x.want)
		if strings.HasPrefix(x.t, "b..") {
			want = []string{""}
		}
		wantOrder(t, term(x.t), words(x.first), d, want, api.OK)
	}
	// A term's number and its sums play no part.
	p := term("b.i.0")
	for _, k := range []int64{0, -3, math.MinInt64} {
		p.K, p.Sum = k, []api.Dim{{Name: "0", Size: 3}, {Name: "9", Size: -1}, {Name: "0"}, {}}
		wantOrder(t, p, []string{"9", "0", ""}, d, []string{"i", "0"}, api.OK)
	}
}

func TestOrderOfNone(t *testing.T) {
	d := decls(t)
	for _, x := range []struct {
		t string
		e api.Errno
	}{
		{"b.i.k b.k.i", api.ErrArg}, {"b.i.k c.i.k", api.ErrArg}, {"e.k.j d.k.j", api.ErrArg}, {"b.i.k b.k.j b.j.i", api.ErrArg}, {"b.i.k b.k.j c.i.j", api.ErrArg}, {"b.i.k b.k.j c.j.i", api.OK}, {"x.i.j.k b.k.i", api.ErrArg}, {"x.i.j.k b.i.k", api.OK}, {"a.l b.i.k f.j b.k.i", api.ErrArg}, {"b.0.1 b.1.0", api.ErrArg}, {"y.i.j.k.l b.l.i s", api.ErrArg}, {"m.i.k m.k.i", api.ErrArg},
		// One that comes again is behind what stands between, which is behind it.
		{"x.j.i.j", api.ErrArg}, {"y.i.k.k.i", api.ErrArg}, {"y.i.j.k.j", api.ErrArg}, {"z.k.k.i.k", api.ErrArg}, {"y.i.i.k.j", api.OK},
		// There is no such tensor, it has other modes, or it is told badly.
		{"h", api.ErrNone}, {"h.i", api.ErrNone}, {"A.i", api.ErrNone}, {".i", api.ErrNone}, {"s.i", api.ErrNone}, {"a", api.ErrNone}, {"a.i.i", api.ErrNone}, {"b.i", api.ErrNone}, {"x.i.j", api.ErrNone}, {"x.i.j.k.l", api.ErrNone}, {"m.i.j.k.l", api.ErrNone}, {"y.i.j.k.l.i", api.ErrNone}, {"p.i", api.ErrNone}, {"p.i.j", api.ErrNone}, {"q.i.j", api.ErrNone}, {"r.i.j", api.ErrNone}, {"t.i.j", api.ErrNone}, {"u.i.j", api.ErrNone}, {"w.i.j", api.ErrNone}, {"sum.i.j", api.ErrNone}, {"n0.i.j", api.ErrNone}, {"2.i.j", api.ErrNone},
		// This comes ahead of there being no order, wherever it stands.
		{"b.i.k b.k.i h", api.ErrNone}, {"h b.i.k b.k.i", api.ErrNone}, {"b.i.k b.k.i a", api.ErrNone}, {"b.i.k b.k.i q.i.j", api.ErrNone}, {"a.i a.i.j", api.ErrNone}, {"a.i.j a.i", api.ErrNone}, {"a.i p.i s", api.ErrNone},
	} {
		for _, first := range []string{"", "i", "k j i", "h"} {
			if x.e != api.OK {
				wantOrder(t, term(x.t), words(first), d, nil, x.e)
			}
		}
		if got, e := lattice.Cycle(term(x.t), d...); got != (x.e == api.ErrArg) || (x.e == api.ErrNone) != (e == api.ErrNone) {
			t.Errorf("Cycle of %s: got %v, error %d", x.t, got, e)
		}
	}
	wantOrder(t, term("a.i"), nil, nil, nil, api.ErrNone)
	wantOrder(t, term(""), []string{"i"}, nil, nil, api.OK)
}

func TestOfSeveralOfOneNameTheFirstIsTold(t *testing.T) {
	csr, csc, bad := api.Decl{Name: "a", Shape: []int{2, 2}, Form: "csr"}, api.Decl{Name: "a", Shape: []int{2, 2}, Form: "csc"}, api.Decl{Name: "a", Shape: []int{2, 2}, Form: "none"}
	x := term("a.i.k")
	wantOrder(t, x, nil, []api.Decl{csr, csc, bad}, []string{"i", "k"}, api.OK)
	wantOrder(t, x, nil, []api.Decl{{Name: "b"}, csc, bad, csr}, []string{"k", "i"}, api.OK)
	wantOrder(t, x, nil, []api.Decl{bad, csr}, nil, api.ErrNone)
}

func TestOrderOfMany(t *testing.T) {
	// Each index comes behind the one ahead, and the first one stands last.
	const many = 30000
	d := decls(t)
	x := api.Term{}
	var want, first []string
	for k := range many {
		x.F = append(x.F, api.Factor{Name: "c", Index: []string{strconv.Itoa(k), strconv.Itoa(k + 1)}})
		want = append(want, strconv.Itoa(many-k))
		first = append(first, strconv.Itoa(k), "none")
	}
	wantOrder(t, x, first, d, append(want, "0"), api.OK)
	x.F = append(x.F, api.Factor{Name: "c", Index: []string{strconv.Itoa(many), "0"}})
	wantOrder(t, x, first, d, nil, api.ErrArg)
	x.F = append(x.F, api.Factor{Name: "c", Index: make([]string, 1<<20)})
	wantOrder(t, x, first, d, nil, api.ErrNone)
}
