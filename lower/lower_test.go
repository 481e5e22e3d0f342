package lower_test

import (
	"math"
	"slices"
	"strconv"
	"strings"
	"testing"

	"purfle/api"
	"purfle/code"
	"purfle/coo"
	"purfle/lower"
	"purfle/pack"
	"purfle/run"
	"purfle/valid"
)

// form is that of a text: "d0p1" is a dense level of mode 0, and a packed one of mode 1.
func form(s string) []api.Spec {
	var f []api.Spec
	for k := 0; k+1 < len(s); k += 2 {
		f = append(f, api.Spec{Kind: strings.IndexByte("dplsb", s[k]), Mode: int(s[k+1] - '0')})
	}
	return f
}

// dims are those of a text: "i=2 k=3".
func dims(s string) []api.Dim {
	var l []api.Dim
	for _, x := range strings.Fields(s) {
		name, size, _ := strings.Cut(x, "=")
		n, _ := strconv.Atoi(size)
		l = append(l, api.Dim{Name: name, Size: n})
	}
	return l
}

// ask is what is asked: the target's indices, those that are summed over, sizes, and of each tensor its indices, and its form behind them, if it has modes.
func ask(index, sum, sizes string, tensors ...string) call {
	q := call{t: api.Term{K: 1, Sum: dims(sum)}, index: strings.Fields(index), sizes: dims(sizes)}
	for k, s := range tensors {
		w := strings.Fields(s)
		last := max(len(w)-1, 0)
		q.t.F = append(q.t.F, api.Factor{Name: "t" + strconv.Itoa(k), Index: w[:last]})
		q.f = append(q.f, form(strings.Join(w[last:], "")))
	}
	return q
}

// order, lowered and bounds are what the calls answer.
func order(q call) ([]api.Dim, api.Errno) { return lower.Order(q.t, q.index, q.sizes, q.f...) }

func lowered(q call) (api.Code, api.Errno) { return lower.Lower(q.t, q.index, q.sizes, q.f...) }

func bounds(q call) (int, int, api.Errno) { return lower.Bounds(q.t, q.index, q.sizes, q.f...) }

// wantNone wants that none of the three tells anything but an error.
func wantNone(t *testing.T, q call, want api.Errno) {
	t.Helper()
	if l, e := order(q); len(l) > 0 || e != want {
		t.Errorf("Order of %v: got %v, error %d; want error %d", q, l, e, want)
	}
	if n, m, e := bounds(q); n != 0 || m != 0 || e != want {
		t.Errorf("Bounds of %v: got %d, %d, error %d; want error %d", q, n, m, e, want)
	}
	if c, e := lowered(q); !code.Same(c, api.Code{}) || e != want {
		t.Errorf("Lower of %v: got %v, error %d; want error %d", q, c, e, want)
	}
}

// wantOrder wants that the indices are these, and that there is code that may be, with arrays as said; and what the words say.
func wantOrder(t *testing.T, q call, want []api.Dim) {
	t.Helper()
	if l, e := order(q); !slices.Equal(l, want) || e != api.OK {
		t.Errorf("Order of %v: got %v, error %d; want %v", q, l, e, want)
	}
	if l, e := orderOf(q); !slices.Equal(l, want) || e != api.OK {
		t.Errorf("the words of %v: %v, error %d; want %v", q, l, e, want)
	}
	wantBounds(t, q)
	wantCode(t, q)
}

// wantBounds wants what the words say.
func wantBounds(t *testing.T, q call) {
	t.Helper()
	n, m, e := boundsOf(q)
	if fuel, cells, is := bounds(q); fuel != n || cells != m || is != e {
		t.Errorf("Bounds of %v: got %d, %d, error %d; want %d, %d, error %d", q, fuel, cells, is, n, m, e)
	}
}

// wantCode is a call's code, that may be, with arrays as said.
func wantCode(t *testing.T, q call) api.Code {
	t.Helper()
	c, e := lowered(q)
	in := 0
	for _, f := range q.f {
		in += 2*len(f) + 1
	}
	if e != api.OK || valid.Check(c) != api.OK || c.In != in || c.Arrays != in+len(q.index)+1 {
		t.Errorf("Lower of %v: got %v, error %d, and %d as it is checked; want %d arrays handed in", q, c, e, valid.Check(c), in)
	}
	return c
}

// P17.1

func TestSimple(t *testing.T) {
	for _, x := range []struct {
		rank int
		f    string
		want bool
	}{
		{0, "", true}, {1, "", false}, {-1, "", false}, {0, "d0", false}, {-1, "d0", false}, {1, "d0", true}, {1, "p0", true}, {1, "l0", false}, {1, "s0", false}, {1, "b0", false}, {1, "d1", false}, {2, "d0", false}, {1, "d0d0", false}, {1, "d0p0", false}, {1, "d/", false},
		{2, "d0p1", true}, {2, "p1d0", true}, {2, "p1p0", true}, {2, "d0d0", false}, {2, "d0d1", true}, {2, "l0s1", false}, {2, "p0s1", false}, {2, "d0l1", false}, {2, "d0p2", false}, {2, "d1p2", false}, {2, "d0p1b1", false}, {3, "d0p1", false}, {1, "d0p1", false},
		{3, "p2d0p1", true}, {3, "p2d0p0", false}, {4, "d3p1p0d2", true}, {4, "d3p1p0d3", false}, {5, "d4d3d2d1d0", true}, {5, "d4d3d2d1d1", false}, {4, "d4d3d2d1d0", false},
	} {
		if lower.Simple(x.rank, form(x.f)...) != x.want {
			t.Errorf("Simple of %d, %s: got %v", x.rank, x.f, !x.want)
		}
	}
	for _, size := range []int{1, -1, 2, math.MaxInt, math.MinInt} {
		if lower.Simple(1, api.Spec{Size: size}) || lower.Simple(2, api.Spec{}, api.Spec{Kind: api.PackedL, Mode: 1, Size: size}) {
			t.Errorf("Simple of a level of size %d", size)
		}
	}
	for _, kind := range []int{-1, 5, math.MaxInt, math.MinInt} {
		if lower.Simple(1, api.Spec{Kind: kind}) || lower.Simple(1, api.Spec{Mode: kind}) {
			t.Errorf("Simple of a level of kind, or of mode %d", kind)
		}
	}
	for _, rank := range []int{math.MinInt, math.MaxInt, 1 << 62} {
		if lower.Simple(rank) || lower.Simple(rank, api.Spec{}) {
			t.Errorf("Simple of rank %d", rank)
		}
	}
}

func TestOrder(t *testing.T) {
	all := "i=2 j=3 k=4 l=5 m=6 n=7"
	for _, x := range []struct {
		q    call
		want string
	}{
		{ask("i j", "0=9", all, "i 0 d0p1", "0 j d0p1"), "i=2 0=9 j=3"},
		{ask("", "", all), ""}, {ask("", "", ""), ""}, {ask("i", "", all), "i=2"}, {ask("j i", "", all), "j=3 i=2"}, {ask("", "", "", "", ""), ""},
		// Those of the target first, as they stand there; then as they stand.
		{ask("j i", "", all, "i d0", "j d0"), "j=3 i=2"}, {ask("i j", "", all, "j d0", "i d0"), "i=2 j=3"}, {ask("j", "", all, "i d0", "k d0", "j d0"), "j=3 i=2 k=4"},
		{ask("", "", all, "k d0", "i p0", "j d0", "i d0"), "k=4 i=2 j=3"}, {ask("m l", "", all, "k i d0d1", "l j d0d1", "m n d0d1"), "m=6 l=5 k=4 i=2 j=3 n=7"},
		// As levels go: of each the least one that may come.
		{ask("i j", "", all, "i j p1d0"), "j=3 i=2"}, {ask("i j", "", all, "i j p0d1"), "i=2 j=3"}, {ask("i j k", "", all, "i j p1d0", "k j d0d1"), "k=4 j=3 i=2"}, {ask("i j k l", "", all, "i l d1d0", "k j d0d1"), "k=4 j=3 l=5 i=2"},
		{ask("i j k", "", all, "i j k p2d0p1"), "k=4 i=2 j=3"}, {ask("i j k", "", all, "i j k p2d1p0"), "k=4 j=3 i=2"}, {ask("i", "0=3", all, "0 i d0d1", "i 0 d1p0"), "0=3 i=2"}, {ask("l", "", all, "i j k l d3d2d1d0"), "l=5 k=4 j=3 i=2"},
		// Of an index that stands there twice, next to itself.
		{ask("i", "", all, "i i d0d1"), "i=2"}, {ask("i", "", all, "i i p1d0"), "i=2"}, {ask("i j", "", all, "i i j p2d0p1"), "j=3 i=2"}, {ask("i j", "", all, "j i i j d3p0d1p2"), "j=3 i=2"}, {ask("i j", "", all, "i j i d1d2d0"), "j=3 i=2"}, {ask("i", "", all, "i i i i p0p3p2p1"), "i=2"},
		// Those that stand in no tensor, behind all.
		{ask("m i n", "", all, "i d0"), "i=2 m=6 n=7"}, {ask("n m i", "0=1", all, "i 0 d1p0"), "0=1 i=2 n=7 m=6"}, {ask("n m l k", "", all), "n=7 m=6 l=5 k=4"}, {ask("m", "", all, "j i p1p0", "k d0"), "i=2 j=3 k=4 m=6"},
		// A sum's size counts ahead, and of sizes the first one; others are not looked at.
		{ask("i", "k=8", "k=1 i=2 i=-3 k=9 x=-1", "i k d0d1"), "i=2 k=8"}, {ask("i", "", "i=2147483648 k=0", "i k d0d1"), "i=2147483648 k=0"}, {ask("", "k=2147483648", "k=-1 k=2147483649", "k p0"), "k=2147483648"}, {ask("x", "", "y=-9 x=0 x=-1"), "x=0"},
		// As many as may be.
		{ask("i j k l", "a=1 b=2 c=3 d=4", all, "i j k l d0d1d2d3", "a b c d d0d1d2d3"), "i=2 j=3 k=4 l=5 a=1 b=2 c=3 d=4"}, {ask("i j k l", "", all+" o=8 p=9", "m n o p d3d2d1d0"), "p=9 o=8 n=7 m=6 i=2 j=3 k=4 l=5"}, {ask("i", "", all, "i d0", "i d0", "i d0", "i d0", "i p0", "i p0", "i p0", "i p0"), "i=2"},
	} {
		wantOrder(t, x.q, dims(x.want))
	}
	// A name may be any text, and a tensor's name says nothing.
	q := ask("i", "k=3", "", "i k d0p1", "k p0")
	q.index, q.sizes = []string{""}, []api.Dim{{Name: "", Size: 2}}
	q.t.F[0].Index[0], q.t.F[0].Name, q.t.F[1].Name = "", "", ""
	wantOrder(t, q, []api.Dim{{Name: "", Size: 2}, {Name: "k", Size: 3}})
}

// several are as many of a text.
func several(many int, s string) []string { return slices.Repeat([]string{s}, many) }

func TestOrderErrors(t *testing.T) {
	all := "i=2 j=3 k=4 l=5 m=6 a=1 b=1 c=1 d=1 e=1 0=0"
	short := func(q call, by int) call {
		q.f = q.f[:len(q.f)-by]
		return q
	}
	long := func(q call) call {
		q.f = append(q.f, nil)
		return q
	}
	for k, x := range []struct {
		q    call
		want api.Errno
	}{
		{short(ask("i", "", all, "i d0"), 1), api.ErrArg}, {short(ask("i", "", all, "i d0", "i d0"), 1), api.ErrArg}, {short(ask("", "", all, ""), 1), api.ErrArg}, {long(ask("i", "", all, "i d0")), api.ErrArg}, {long(ask("", "", all)), api.ErrArg},
		{ask("i", "", all, several(9, "i d0")...), api.ErrArg}, {ask("", "", all, several(9, "")...), api.ErrArg}, {ask("i j k l m", "", all), api.ErrArg}, {ask("i j k l m", "", all, "i d0"), api.ErrArg}, {ask("", "", all, "i j k l m d0d1d2d3d4"), api.ErrArg}, {ask("", "", all, "i d0", "i i i i i d0d1d2d3d4"), api.ErrArg},
		{ask("i i", "", all, "i d0"), api.ErrArg}, {ask("j i j", "", all, "i d0"), api.ErrArg}, {ask("m m", "", all, "i d0"), api.ErrArg}, {ask("i j k i", "", all), api.ErrArg},
		{ask("i", "0=2 0=2", all, "i 0 d0d1"), api.ErrArg}, {ask("i", "0=2 1=2 0=2", all, "i 0 1 d0d1d2"), api.ErrArg}, {ask("i", "i=2", all, "i d0"), api.ErrArg}, {ask("j i", "0=2 i=2", all, "i 0 d0d1"), api.ErrArg}, {ask("m", "m=2", all, "i d0"), api.ErrArg}, {ask("i", "0=2", all, "i d0"), api.ErrArg}, {ask("", "0=2", all), api.ErrArg}, {ask("", "0=2 x=3", all, "0 d0"), api.ErrArg},
		{ask("x", "", all), api.ErrArg}, {ask("i x", "", all, "i d0"), api.ErrArg}, {ask("i", "", all, "i x d0d1"), api.ErrArg}, {ask("", "", all, "i d0", "x d0"), api.ErrArg}, {ask("I", "", all), api.ErrArg}, {ask("i", "", "", "i d0"), api.ErrArg},
		{ask("i", "", "i=-1", "i d0"), api.ErrArg}, {ask("i", "", "i=2147483649", "i d0"), api.ErrArg}, {ask("i", "", "i=-1"), api.ErrArg}, {ask("i", "", "i=2147483649"), api.ErrArg}, {ask("i", "", "i=-1 i=2", "i d0"), api.ErrArg}, {ask("", "0=-1", "0=2", "0 d0"), api.ErrArg}, {ask("", "0=2147483649", "0=2", "0 d0"), api.ErrArg}, {ask("i", "", "i=9223372036854775807", "i d0"), api.ErrArg}, {ask("i", "", "i=-9223372036854775808", "i d0"), api.ErrArg},
		{ask("i", "", all, "i l0"), api.ErrShape}, {ask("i", "", all, "i s0"), api.ErrShape}, {ask("i", "", all, "i d1"), api.ErrShape}, {ask("i", "", all, "i d0p1"), api.ErrShape}, {ask("i j", "", all, "i j d0"), api.ErrShape}, {ask("i j", "", all, "i j d0p0"), api.ErrShape}, {ask("i j", "", all, "i j d0d1", "i j l0s1"), api.ErrShape}, {ask("i", "", all, "i d0b0"), api.ErrShape}, {ask("i i", "", all, "i l0"), api.ErrArg},
		{ask("i j k l", "", all, "a b c d d0d1d2d3", "e d0"), api.ErrLarge}, {ask("i", "", all, "a b c d d0d1d2d3", "j k l m d0d1d2d3"), api.ErrLarge}, {ask("i", "", all, "i a b c d0d1d2d3", "d e j k d0d1d2d3", "l d0"), api.ErrLarge},
		{ask("i", "", all, "i k d0d1", "i k d1d0"), api.ErrNone}, {ask("i", "", all, "i k d0p1", "k i d0p1"), api.ErrNone}, {ask("i j k", "", all, "i j d0d1", "j k d0d1", "k i d0d1"), api.ErrNone}, {ask("i j", "", all, "i j i d0d1d2"), api.ErrNone}, {ask("i j", "", all, "i j i j d0d1d2d3"), api.ErrNone}, {ask("m l", "", all, "a d0", "i k d0d1", "i k d1d0"), api.ErrNone},
		// What the chapter names first comes first.
		{ask("i", "0=2", all, "i l0"), api.ErrArg}, {ask("x", "", all, "i l0"), api.ErrArg}, {ask("x j k l", "", all, "a b c d d0d1d2d3", "e d0"), api.ErrArg}, {ask("x", "", all, "i j i d0d1d2"), api.ErrArg}, {ask("i j k l", "", all, "a b c d d0d1d2d3", "e l0"), api.ErrShape}, {ask("i j", "", all, "i j i d0d1d2", "i d1"), api.ErrShape}, {ask("i j k l", "", all, "a b c d d0d1d2d3", "e i e d0d1d2"), api.ErrLarge},
	} {
		wantNone(t, x.q, x.want)
		if _, e := orderOf(x.q); e != x.want {
			t.Errorf("%d: the words say %d", k, e)
		}
	}
	// A block of a size is not simple, be the index's size one that it divides or not.
	q := ask("i", "", all, "i d0")
	q.f[0][0].Size = 1
	wantNone(t, q, api.ErrShape)
	// Many that are asked for are looked at once.
	q = ask("i", "", all, "i d0")
	q.t.Sum = slices.Repeat(dims("x=1"), 1<<20)
	wantNone(t, q, api.ErrArg)
	q.t.Sum, q.sizes = nil, slices.Repeat(dims("x=1"), 1<<20)
	wantNone(t, q, api.ErrArg)
	q.sizes, q.t.F = nil, make([]api.Factor, 1<<20)
	wantNone(t, q, api.ErrArg)
	q = ask("", "", all)
	q.index = make([]string, 1<<20)
	wantNone(t, q, api.ErrArg)
}

// P17.2

func TestBounds(t *testing.T) {
	for _, x := range []struct {
		q           call
		fuel, cells int
		e           api.Errno
	}{
		{ask("", "", ""), 2 * 80, 1, api.OK}, {ask("", "", "", "", ""), 2 * 88, 1, api.OK}, {ask("i", "", "i=0"), 2 * (64 + 16 + 4), 0, api.OK}, {ask("i", "", "i=1"), 3 * (64 + 32 + 4), 2, api.OK}, {ask("i", "", "i=5"), 7 * (64 + 96 + 4), 10, api.OK},
		{ask("i", "", "i=2 k=3", "i k d0p1", "i k d0p1"), 10 * (64 + 16*5*4 + 4*3), 12, api.OK}, {ask("i j", "0=3", "i=2 j=4", "i 0 d0p1", "0 j d0p1"), (2 + 6 + 24 + 2) * (64 + 16*5*5 + 4*4), 72, api.OK}, {ask("", "0=3", "", "0 p0"), 5 * (64 + 16*2*4 + 4), 3, api.OK},
		// As the indices are ordered.
		{ask("i j", "", "i=2 j=5", "i j d1p0"), (5 + 10 + 2) * (64 + 16*3*6 + 12), 30, api.OK}, {ask("j i", "", "i=0 j=5"), 7 * (64 + 16*6 + 8), 0, api.OK}, {ask("i j", "", "i=0 j=5"), 2 * (64 + 16*6 + 8), 0, api.OK}, {ask("m", "", "i=2 m=3", "i p0"), (2 + 6 + 2) * (64 + 16*2*4 + 8), 12, api.OK},
		// Products on the way are too large, be there a 0 behind them or not; ahead of them it counts.
		{ask("i j k", "", "i=2147483648 j=2147483648 k=0"), 0, 0, api.ErrLarge}, {ask("i j k", "", "i=2147483648 j=0 k=2147483648"), 0, 0, api.ErrLarge}, {ask("i j k", "", "i=0 j=2147483648 k=2147483648"), 2 * (64 + 16*2147483649 + 12), 0, api.OK}, {ask("i j k l", "", "i=0 j=2147483648 k=2147483648 l=2147483648"), 2 * (64 + 16*2147483649 + 16), 0, api.OK},
		{ask("i j k l", "", "i=2147483648 j=2147483648 k=2147483648 l=2147483648"), 0, 0, api.ErrLarge}, {ask("i j k l", "a=2147483648 b=2147483648 c=2147483648 d=2147483648", "i=2147483648 j=2147483648 k=2147483648 l=2147483648", "a b c d d0d1d2d3"), 0, 0, api.ErrLarge},
		{ask("i j k l", "", "i=2147483648 j=2147483648 k=0 l=0"), 0, 0, api.ErrLarge}, {ask("i", "", "i=2147483648"), 0, 0, api.ErrLarge}, {ask("i", "", "i=536000000", "i p0"), 0, 0, api.ErrLarge}, {ask("i", "", "i=1000000", "i p0"), 1000002 * (64 + 32*1000001 + 8), 2000000, api.OK},
	} {
		if n, m, e := bounds(x.q); n != x.fuel || m != x.cells || e != x.e {
			t.Errorf("Bounds of %v: got %d, %d, error %d; want %d, %d, error %d", x.q, n, m, e, x.fuel, x.cells, x.e)
		}
		wantBounds(t, x.q)
		// Too much to be run is code none the less.
		wantCode(t, x.q)
	}
}

func TestBoundsToTheNumber(t *testing.T) {
	l := []func(size int) call{
		func(n int) call { return ask("i", "", "i="+strconv.Itoa(n)) },
		func(n int) call { return ask("i", "", "i="+strconv.Itoa(n), "i p0", "i p0", "i d0") },
		func(n int) call { return ask("i j", "", "i="+strconv.Itoa(n)+" j=3", "j i p0p1") },
		func(n int) call {
			return ask("i j k l", "", "i=1 j="+strconv.Itoa(n)+" k=1 l=1", "i j k l p0p1p2p3", "i j k l p0p1p2p3")
		},
	}
	for first := range 200 {
		l = append(l, func(n int) call { return ask("i j", "", "i="+strconv.Itoa(first+1)+" j="+strconv.Itoa(n)) })
	}
	near := 0
	for _, of := range l {
		// The greatest size that is within it, found by halves.
		low, high := 0, 1<<31
		for low+1 < high {
			half := (low + high) / 2
			if _, _, e := boundsOf(of(half)); e == api.OK {
				low = half
			} else {
				high = half
			}
		}
		fuel, _, e := bounds(of(low))
		if e != api.OK {
			t.Errorf("%v: error %d", of(low), e)
		}
		if 1<<62-fuel < of(low).places() {
			near++
		}
		if _, _, e := bounds(of(high)); e != api.ErrLarge {
			t.Errorf("%v: error %d", of(high), e)
		}
		for size := low - 3; size < high+3; size++ {
			wantBounds(t, of(size))
		}
	}
	if near < 3 {
		t.Errorf("%d are near", near)
	}
}

// P17.3

// packed is a list's tensor, of so many places.
func packed(t *testing.T, size int, f string, at ...int) api.Tensor {
	t.Helper()
	x := api.Coo{Shape: []int{size}}
	for _, n := range at {
		x.E = append(x.E, api.Entry{C: []int{n}, V: int64(n + 2)})
	}
	y, e := pack.Pack(x, form(f)...)
	if e != api.OK {
		t.Fatalf("%v of %d: error %d", few(at), size, e)
	}
	return y
}

// few are a list's first ones, to be told.
func few[T any](l []T) []T { return l[:min(len(l), 20)] }

// ran is what code comes to, with what its tensors hand in, within its bounds, or, if these are not told, within some fuel.
func ran(t *testing.T, q call, fuel int, l ...api.Tensor) api.Result {
	t.Helper()
	c := wantCode(t, q)
	in, e := lower.Bind(l...)
	if e != api.OK || len(in) != c.In {
		t.Fatalf("Bind of %v: %d lists, error %d; want %d", few(l), len(in), e, c.In)
	}
	n, m, e := bounds(q)
	if e != api.OK {
		n, m = fuel, 1<<20
	}
	r, e := run.Run(c, n, m, in...)
	if e != api.OK {
		s, _ := code.Text(c)
		t.Fatalf("%v within %d, %d: error %d, of\n%s", q, n, m, e, s)
	}
	return r
}

// pushes are what was pushed, in order.
func pushes(t *testing.T, q call, r api.Result) []push {
	t.Helper()
	rank := len(q.index)
	if len(r.Out) != rank+1 {
		t.Fatalf("%v: %d lists came out", q, len(r.Out))
	}
	l := make([]push, len(r.Out[rank]))
	for k := range l {
		l[k].v = r.Out[rank][k]
		for m, of := range r.Out[:rank] {
			if len(of) != len(l) {
				t.Fatalf("%v: %d places and %d values", q, len(of), len(l))
			}
			l[k].at[m] = int(of[k])
		}
	}
	return l
}

// wantPushes wants a value for each place at which all tensors have an entry, and none else.
func wantPushes(t *testing.T, q call, l ...api.Tensor) []push {
	t.Helper()
	got := pushes(t, q, ran(t, q, 1<<24, l...))
	sorted := slices.SortedFunc(slices.Values(got), before)
	if want := pushesOf(q, l); !slices.Equal(sorted, want) {
		c, _ := lowered(q)
		s, _ := code.Text(c)
		t.Fatalf("%v of %v: got %v; want %v, of\n%s", q, few(l), few(sorted), few(want), s)
	}
	return got
}

func TestLowerMatrices(t *testing.T) {
	x := api.Dense{Shape: []int{2, 3}, V: []int64{1, 0, 2, 0, 3, 0}}
	y := api.Dense{Shape: []int{3, 2}, V: []int64{5, 0, 7, 1, 0, 2}}
	for _, f := range []string{"d0d1", "d0p1", "p0d1", "p0p1", "d1d0", "d1p0", "p1d0", "p1p0"} {
		a, _ := pack.Dense(x, form(f)...)
		wantPushes(t, ask("i j", "", "i=2 j=3", "i j "+f), a)
		wantPushes(t, ask("j i", "", "i=2 j=3", "i j "+f), a)
		wantPushes(t, ask("i", "0=3", "i=2", "i 0 "+f), a)
		wantPushes(t, ask("", "0=3 1=2", "", "1 0 "+f), a)
		for _, g := range []string{"d0d1", "d0p1", "p0d1", "p0p1", "d1d0", "d1p0", "p1d0", "p1p0"} {
			b, _ := pack.Dense(y, form(g)...)
			for _, q := range []call{ask("i j", "0=3", "i=2 j=2", "i 0 "+f, "0 j "+g), ask("j i", "0=3", "i=2 j=2", "0 j "+g, "i 0 "+f), ask("i", "0=3", "i=2", "i 0 "+f, "0 i "+g)} {
				l := []api.Tensor{a, b}
				if q.t.F[0].Index[0] == "0" {
					l = []api.Tensor{b, a}
				}
				if _, e := orderOf(q); e != api.OK {
					wantNone(t, q, e)
					continue
				}
				wantPushes(t, q, l...)
			}
		}
	}
}

func TestLowerNumbers(t *testing.T) {
	// K is any number, and all goes around.
	w := packed(t, 3, "d0", 0, 1, 2)
	w.V = []int64{math.MinInt64, -1, 3}
	one, _ := pack.Dense(api.Dense{V: []int64{math.MaxInt64}})
	for _, k := range []int64{0, 1, -1, 7, 1e18 - 1, 1e18, 1e18 + 1, 1 - 1e18, -1e18, -1e18 - 1, math.MaxInt64, math.MinInt64, math.MinInt64 + 1, 1 << 62, -1 << 62, 1<<62 + 1<<32 - 1, -1<<62 - 1, 0x7fffffff00000000, -0x7fffffff00000000, -0x7fffffffffffffff + 0xffffffff} {
		for _, q := range []call{ask("", "", ""), ask("i", "", "i=2"), ask("i", "", "i=3", "i d0"), ask("", "0=3", "", "0 d0"), ask("i", "", "i=3", "i d0", "i d0"), ask("i", "", "i=3", "", "i d0"), ask("i", "", "i=3", "i d0", "", ""), ask("", "", "", "", "")} {
			q.t.K = k
			var l []api.Tensor
			for _, x := range q.t.F {
				l = append(l, []api.Tensor{one, w}[len(x.Index)])
			}
			wantPushes(t, q, l...)
		}
	}
	q := ask("", "", "")
	q.t.K = math.MinInt64
	if r := ran(t, q, 0); !slices.Equal(r.Out[0], []int64{math.MinInt64}) || r.Cells != 1 {
		t.Errorf("got %v", r)
	}
	// What is 0 is pushed as all else is: K, a number, or a product that goes around.
	w.V = []int64{0, 1 << 32, 5}
	for k, want := range map[int64][]int64{0: {0, 0, 0}, 1: {0, 1 << 32, 5}, 1 << 32: {0, 0, 5 << 32}} {
		q := ask("i", "", "i=3", "i d0")
		q.t.K = k
		if r := ran(t, q, 0, w); !slices.Equal(r.Out[1], want) || !slices.Equal(r.Out[0], []int64{0, 1, 2}) {
			t.Errorf("%d: got %v; want %v", k, r, want)
		}
	}
}

func TestProductsOfPackedLists(t *testing.T) {
	// All of up to three lists of 4 places, or of 3.
	sets := func(size int) []api.Tensor {
		var l []api.Tensor
		for bits := range 1 << size {
			var at []int
			for n := range size {
				if bits>>n&1 == 1 {
					at = append(at, n)
				}
			}
			l = append(l, packed(t, size, "p0", at...))
		}
		return l
	}
	rises := func(size int, l ...api.Tensor) {
		for _, q := range []call{ask("i", "", "i="+strconv.Itoa(size), several(len(l), "i p0")...), ask("", "i="+strconv.Itoa(size), "", several(len(l), "i p0")...)} {
			got := wantPushes(t, q, l...)
			// Values are products of places and 2: they rise as places do.
			if !slices.IsSortedFunc(got, before) {
				t.Fatalf("%v: got %v", l, got)
			}
		}
	}
	four, three := sets(4), sets(3)
	for _, a := range four {
		rises(4, a)
		for _, b := range four {
			rises(4, a, b)
		}
	}
	for _, a := range three {
		for _, b := range three {
			for _, c := range three {
				rises(3, a, b, c)
			}
		}
	}
}

func TestLongPackedLists(t *testing.T) {
	// Lists as long as may be, of as many places as may be: code goes to what is there.
	const size = 1 << 31
	step := func(many, first, by int) api.Tensor {
		at := make([]int, many)
		for k := range at {
			at[k] = first + k*by
		}
		return packed(t, size, "p0", at...)
	}
	full, even, odd, last, ends := step(65536, 0, 1), step(65536, 0, 2), step(65536, 1, 2), packed(t, size, "p0", size-1), packed(t, size, "p0", 0, size-1)
	far := step(65536, size-65536, 1)
	for _, x := range []struct {
		l     []api.Tensor
		first int
		by    int
		many  int
	}{
		{[]api.Tensor{full}, 0, 1, 65536}, {[]api.Tensor{full, full}, 0, 1, 65536}, {[]api.Tensor{full, even}, 0, 2, 32768}, {[]api.Tensor{even, odd}, 0, 0, 0}, {[]api.Tensor{odd, full, odd, full}, 1, 2, 32768}, {[]api.Tensor{even, full, even, full, odd}, 0, 0, 0},
		{[]api.Tensor{last}, size - 1, 1, 1}, {[]api.Tensor{ends, last}, size - 1, 1, 1}, {[]api.Tensor{ends}, 0, size - 1, 2}, {[]api.Tensor{ends, full}, 0, 1, 1}, {[]api.Tensor{full, last}, 0, 0, 0}, {[]api.Tensor{last, full, full}, 0, 0, 0}, {[]api.Tensor{far, last, far}, size - 1, 1, 1}, {[]api.Tensor{far, full}, 0, 0, 0}, {[]api.Tensor{far, far}, size - 65536, 1, 65536},
		{[]api.Tensor{full, full, full, full, full, full, full, full}, 0, 1, 65536}, {[]api.Tensor{full, even, full, even, full, even, full, odd}, 0, 0, 0},
	} {
		q := ask("i", "", "i="+strconv.Itoa(size), several(len(x.l), "i p0")...)
		if _, _, e := bounds(q); e != api.ErrLarge {
			t.Errorf("Bounds of %v: error %d", q, e)
		}
		all := 0
		for _, y := range x.l {
			all += len(y.V)
		}
		r := ran(t, q, 16*all+100, x.l...)
		if len(r.Out[0]) != x.many {
			t.Errorf("%v: %d places came out; want %d", q, len(r.Out[0]), x.many)
			continue
		}
		for k, n := range r.Out[0] {
			v := int64(1)
			for range x.l {
				v *= n + 2
			}
			if n != int64(x.first+k*x.by) || r.Out[1][k] != v {
				t.Fatalf("%v: got %d at %d", q, n, k)
			}
		}
	}
}

func TestLowerGoesWherePlacesAre(t *testing.T) {
	// A row of a packed list, and few rows: not all that a dense one, or none, would have.
	const size = 1 << 20
	a := packed(t, size, "p0", 5, 70000, size-1)
	b := packed(t, size, "d0", 5, size-1)
	for _, q := range []call{ask("i", "", "i="+strconv.Itoa(size), "i p0", "i d0"), ask("i", "", "i="+strconv.Itoa(size), "i d0", "i p0"), ask("i", "", "i="+strconv.Itoa(size), "i d0", "i p0", "i d0", "i p0")} {
		var l []api.Tensor
		for k := range q.t.F {
			l = append(l, map[int]api.Tensor{api.PackedL: a, api.DenseL: b}[q.f[k][0].Kind])
		}
		r := ran(t, q, 0, l...)
		if !slices.Equal(r.Out[0], []int64{5, 70000, size - 1}) || r.Out[1][1] != 0 || r.Steps > 200 {
			t.Errorf("%v: got %v in %d steps", q, r.Out, r.Steps)
		}
	}
	// Rows that are packed, and columns that are: only those of both.
	x := api.Coo{Shape: []int{size, size}, E: []api.Entry{{C: []int{3, 9}, V: 2}, {C: []int{3, size - 1}, V: 3}, {C: []int{size - 1, 9}, V: 4}}}
	c, _ := pack.Pack(x, form("p0p1")...)
	q := ask("i", "0="+strconv.Itoa(size), "i="+strconv.Itoa(size), "i 0 p0p1", "i 0 p0p1", "0 p0")
	if r := ran(t, q, 500, c, c, packed(t, size, "p0", 8, 9, 10)); !slices.Equal(r.Out[0], []int64{3, size - 1}) || !slices.Equal(r.Out[1], []int64{44, 176}) {
		t.Errorf("got %v", r)
	}
}

func TestLowerOfNoEntries(t *testing.T) {
	none, some, empty := packed(t, 3, "p0"), packed(t, 3, "p0", 0, 1, 2), packed(t, 0, "d0")
	csr, _ := pack.Pack(api.Coo{Shape: []int{3, 2}}, form("d0p1")...)
	flat, _ := pack.Pack(api.Coo{Shape: []int{3, 0}}, form("d0d1")...)
	wide, _ := pack.Pack(api.Coo{Shape: []int{0, 1 << 31}}, form("d0d1")...)
	deep, _ := pack.Pack(api.Coo{Shape: []int{3, 1 << 31}}, form("p0d1")...)
	for _, x := range []struct {
		q call
		l []api.Tensor
	}{
		{ask("i", "", "i=3", "i p0"), []api.Tensor{none}}, {ask("", "i=3", "", "i p0"), []api.Tensor{none}}, {ask("i", "", "i=3", "i p0", "i p0"), []api.Tensor{some, none}}, {ask("i", "", "i=3", "i p0", "i p0"), []api.Tensor{none, some}}, {ask("i j", "", "i=3 j=3", "i p0", "j p0"), []api.Tensor{none, some}}, {ask("i j", "", "i=3 j=3", "i p0", "j p0"), []api.Tensor{some, none}}, {ask("i j", "", "i=3 j=4", "i p0"), []api.Tensor{none}},
		{ask("i", "", "i=0", "i d0"), []api.Tensor{empty}}, {ask("i j", "", "i=0 j=3", "i d0", "j p0"), []api.Tensor{empty, some}}, {ask("j i", "", "i=0 j=3", "i d0", "j p0"), []api.Tensor{empty, some}}, {ask("i j", "", "i=3 j=2", "i j d0p1"), []api.Tensor{csr}}, {ask("i j", "", "i=3 j=2", "i j d0p1", "i p0"), []api.Tensor{csr, some}}, {ask("i j", "", "i=3 j=0", "i j d0d1"), []api.Tensor{flat}}, {ask("i j", "", "i=3 j=0", "i p0", "i j d0d1"), []api.Tensor{some, flat}}, {ask("i j", "", "i=0 j=2147483648", "i j d0d1"), []api.Tensor{wide}}, {ask("i j", "", "i=3 j=2147483648", "i j p0d1"), []api.Tensor{deep}}, {ask("i", "", "i=0"), nil},
	} {
		if r := ran(t, x.q, 1000, x.l...); r.Cells != 0 || slices.ContainsFunc(r.Out, func(l []int64) bool { return len(l) > 0 }) {
			t.Errorf("%v: got %v", x.q, r)
		}
	}
	// A target's index of no places leaves none, whatever the tensors have.
	if r := ran(t, ask("i m", "", "i=3 m=0", "i p0"), 0, some); r.Cells != 0 {
		t.Errorf("got %v", r)
	}
}

func TestLowerOfAnIndexTwice(t *testing.T) {
	x := api.Dense{Shape: []int{3, 3}, V: []int64{1, 2, 0, 0, 0, 3, 4, 0, 5}}
	d := api.Dense{Shape: []int{3, 3}, V: []int64{1, 1, 1, 1, 1, 1, 1, 1, 1}}
	row := packed(t, 3, "p0", 0, 2)
	for _, f := range []string{"d0d1", "d0p1", "p0d1", "p0p1", "d1d0", "d1p0", "p1d0", "p1p0"} {
		for _, y := range []api.Dense{x, d} {
			a, _ := pack.Dense(y, form(f)...)
			wantPushes(t, ask("i", "", "i=3", "i i "+f), a)
			wantPushes(t, ask("", "i=3", "", "i i "+f), a)
			wantPushes(t, ask("i", "", "i=3", "i i "+f, "i i "+f), a, a)
			wantPushes(t, ask("i", "", "i=3", "i p0", "i i "+f), row, a)
			wantPushes(t, ask("i", "", "i=3", "i i "+f, "i p0"), a, row)
			wantPushes(t, ask("i j", "", "i=3 j=3", "i i "+f, "j j "+f, "i p0"), a, a, row)
		}
	}
}

// P17.4

func TestBind(t *testing.T) {
	csr, _ := pack.Dense(api.Dense{Shape: []int{2, 3}, V: []int64{1, 0, 2, 0, 3, 0}}, form("d0p1")...)
	loose, _ := pack.Dense(api.Dense{Shape: []int{2, 3}, V: []int64{1, 0, 2, 0, 3, 0}}, form("l0s1")...)
	block := []api.Spec{{Kind: api.PackedL}, {Kind: api.BlockL, Size: 2}}
	blocked, _ := pack.Dense(api.Dense{Shape: []int{4}, V: []int64{0, 0, 7, -8}}, block...)
	one, _ := pack.Dense(api.Dense{V: []int64{math.MinInt64}})
	for _, x := range []struct {
		l    []api.Tensor
		want [][]int64
	}{
		{nil, nil}, {[]api.Tensor{one}, [][]int64{{math.MinInt64}}}, {[]api.Tensor{csr}, [][]int64{{}, {}, {0, 2, 3}, {0, 2, 1}, {1, 2, 3}}}, {[]api.Tensor{loose}, [][]int64{{0, 3}, {0, 0, 1}, {}, {0, 2, 1}, {1, 2, 3}}}, {[]api.Tensor{blocked}, [][]int64{{0, 1}, {1}, {}, {}, {7, -8}}},
		{[]api.Tensor{one, csr, one}, [][]int64{{math.MinInt64}, {}, {}, {0, 2, 3}, {0, 2, 1}, {1, 2, 3}, {math.MinInt64}}},
	} {
		if in, e := lower.Bind(x.l...); !slices.EqualFunc(in, x.want, slices.Equal[[]int64]) || e != api.OK {
			t.Errorf("Bind of %v: got %v, error %d; want %v", x.l, in, e, x.want)
		}
	}
	// The first one that has an error tells it.
	arg, shape, large, far := csr, csr, csr, csr
	arg.V = []int64{1}
	shape.F = form("d0p0")
	large.Shape = []int{1 << 31, 1 << 31}
	far.L = slices.Clone(csr.L)
	far.L[1].Crd = []int{0, 2, 3}
	for _, x := range []struct {
		l    []api.Tensor
		want api.Errno
	}{
		{[]api.Tensor{arg}, api.ErrArg}, {[]api.Tensor{shape}, api.ErrShape}, {[]api.Tensor{large}, api.ErrLarge}, {[]api.Tensor{far}, api.ErrRange}, {[]api.Tensor{csr, far, arg}, api.ErrRange}, {[]api.Tensor{arg, far}, api.ErrArg}, {[]api.Tensor{csr, one, shape, large}, api.ErrShape}, {[]api.Tensor{large, shape}, api.ErrLarge}, {[]api.Tensor{{}}, api.ErrArg}, {[]api.Tensor{csr, csr, {}}, api.ErrArg},
	} {
		if in, e := lower.Bind(x.l...); len(in) > 0 || e != x.want {
			t.Errorf("Bind of %v: got %v, error %d; want %d", x.l, in, e, x.want)
		}
	}
}

func TestGather(t *testing.T) {
	for _, x := range []struct {
		shape []int
		out   [][]int64
		want  []api.Entry
		e     api.Errno
	}{
		{nil, [][]int64{{}}, nil, api.OK}, {nil, [][]int64{nil}, nil, api.OK}, {nil, [][]int64{{5}}, []api.Entry{{V: 5}}, api.OK}, {nil, [][]int64{{5, 0, math.MinInt64}}, []api.Entry{{V: 5}, {}, {V: math.MinInt64}}, api.OK}, {[]int{3}, [][]int64{{2, 0, 2}, {7, 8, 9}}, []api.Entry{{C: []int{2}, V: 7}, {C: []int{0}, V: 8}, {C: []int{2}, V: 9}}, api.OK}, {[]int{2, 3}, [][]int64{{1, 0}, {2, 1}, {-1, 0}}, []api.Entry{{C: []int{1, 2}, V: -1}, {C: []int{0, 1}}}, api.OK}, {[]int{0, 3}, [][]int64{nil, {}, nil}, nil, api.OK}, {[]int{1 << 31, 1 << 30}, [][]int64{{1<<31 - 1}, {0}, {4}}, []api.Entry{{C: []int{1<<31 - 1, 0}, V: 4}}, api.OK},
		{nil, nil, nil, api.ErrArg}, {nil, [][]int64{{}, {}}, nil, api.ErrArg}, {[]int{3}, nil, nil, api.ErrArg}, {[]int{3}, [][]int64{{1}}, nil, api.ErrArg}, {[]int{3}, [][]int64{{}, {}, {}}, nil, api.ErrArg}, {[]int{3}, [][]int64{{1}, {}}, nil, api.ErrArg}, {[]int{3}, [][]int64{{}, {1}}, nil, api.ErrArg}, {[]int{3}, [][]int64{{1, 1}, {1}}, nil, api.ErrArg}, {[]int{3, 3}, [][]int64{{1}, {1, 1}, {1}}, nil, api.ErrArg}, {[]int{3, 3}, [][]int64{{1, 1}, {1}, {1}}, nil, api.ErrArg},
		{[]int{3}, [][]int64{{3}, {1}}, nil, api.ErrRange}, {[]int{3}, [][]int64{{-1}, {1}}, nil, api.ErrRange}, {[]int{3, 2}, [][]int64{{2}, {2}, {1}}, nil, api.ErrRange}, {[]int{0}, [][]int64{{0}, {1}}, nil, api.ErrRange}, {[]int{3}, [][]int64{{1 << 32}, {1}}, nil, api.ErrRange}, {[]int{3}, [][]int64{{1, 2, math.MinInt64}, {1, 1, 1}}, nil, api.ErrRange}, {[]int{-1}, [][]int64{nil, nil}, nil, api.ErrArg}, {[]int{1, 1, 1, 1, 1}, [][]int64{nil, nil, nil, nil, nil, nil}, nil, api.ErrArg}, {[]int{1 << 31, 1 << 31}, [][]int64{nil, nil, nil}, nil, api.ErrLarge}, {[]int{1 << 31, 1 << 31}, [][]int64{{-1}, {0}, {0}}, nil, api.ErrLarge}, {[]int{-1}, [][]int64{{0}, nil}, nil, api.ErrArg},
	} {
		got, e := lower.Gather(x.shape, x.out...)
		if e != x.e || !slices.EqualFunc(got.E, x.want, sameEntry) || e == api.OK && !slices.Equal(got.Shape, x.shape) || e != api.OK && got.Shape != nil {
			t.Errorf("Gather of %v, %v: got %v, error %d; want %v, error %d", x.shape, x.out, got, e, x.want, x.e)
		}
		if e == api.OK && coo.Check(got) != api.OK {
			t.Errorf("Gather of %v, %v: got %v, that may not be", x.shape, x.out, got)
		}
	}
}

// sameEntry tells whether two are the same.
func sameEntry(a, b api.Entry) bool { return a.V == b.V && slices.Equal(a.C, b.C) }

func TestGatherOfMany(t *testing.T) {
	l := make([]int64, api.MaxList+1)
	for k := range l {
		l[k] = int64(k)
	}
	x, e := lower.Gather([]int{api.MaxList}, l[:api.MaxList], l[1:])
	if e != api.OK || len(x.E) != api.MaxList || x.E[api.MaxList-1].C[0] != api.MaxList-1 || x.E[api.MaxList-1].V != api.MaxList {
		t.Errorf("got %d, error %d", len(x.E), e)
	}
	for _, y := range []struct {
		shape []int
		want  api.Errno
	}{{[]int{api.MaxList + 1}, api.ErrLarge}, {[]int{1}, api.ErrLarge}, {[]int{-1}, api.ErrArg}, {[]int{1 << 62}, api.ErrLarge}} {
		if x, e := lower.Gather(y.shape, l, l); len(x.E) > 0 || e != y.want {
			t.Errorf("Gather of %v, too many: got %d, error %d; want %d", y.shape, len(x.E), e, y.want)
		}
	}
	long := make([]int64, 1<<24)
	if x, e := lower.Gather([]int{1, 1}, long, long, long); len(x.E) > 0 || e != api.ErrLarge {
		t.Errorf("got %d, error %d", len(x.E), e)
	}
	if x, e := lower.Gather([]int{1, 1}, long, long, long[1:]); len(x.E) > 0 || e != api.ErrArg {
		t.Errorf("got %d, error %d", len(x.E), e)
	}
}
