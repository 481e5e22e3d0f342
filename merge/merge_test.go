package merge_test

import (
	"math"
	"slices"
	"testing"

	"purfle/api"
	"purfle/merge"
)

func rising(from, behind, by int) []int {
	var l []int
	for n := from; n < behind; n += by {
		l = append(l, n)
	}
	return l
}

// subsets are all sets of the numbers 0 to n less 1, rising.
func subsets(n int) [][]int {
	var l [][]int
	for bits := range 1 << n {
		var set []int
		for k := range n {
			if bits>>k&1 == 1 {
				set = append(set, k)
			}
		}
		l = append(l, set)
	}
	return l
}

// each goes through all ways to choose so many of the lists, each as often as may be.
func each(lists [][]int, many int, f func(l [][]int)) {
	l := make([][]int, many)
	var further func(k int)
	further = func(k int) {
		if k == many {
			f(l)
			return
		}
		for _, x := range lists {
			l[k] = x
			further(k + 1)
		}
	}
	further(0)
}

// counted tells numbers from 0 on that look like no order, below a bound.
func counted(salt int) func(below int) int {
	s := uint64(salt)*2862933555777941757 + 3037000493
	return func(below int) int {
		s = s*6364136223846793005 + 1442695040888963407
		return int(s>>33) % below
	}
}

// mixed are some lists that rise, by steps of no order, some of them empty.
func mixed(salt, many, long int) [][]int {
	next := counted(salt)
	l := make([][]int, many)
	for k := range l {
		at := next(9) - 20
		for range next(long + 1) {
			at += 1 + next(3)
			l[k] = append(l[k], at)
		}
	}
	return l
}

// samples are lists that rise: all of few numbers, and some of many; of none, of one and of several, and of greatest numbers.
func samples() [][][]int {
	samples := [][][]int{
		{{1, 3}, {3}},
		{{1, 4, 6, 9}, {2, 4, 9}, {4, 5, 9, 10}},
		{{math.MinInt, -1, 0, math.MaxInt}, {math.MinInt, math.MinInt + 1, math.MaxInt - 1, math.MaxInt}},
		{{math.MaxInt}, {math.MinInt}, {0}},
		{{math.MinInt}, {math.MinInt, math.MaxInt}, {math.MinInt}},
		{{-5, -3}, {-4, -3, -1}, {-3}},
		{{1 << 40, 1<<40 + 1}, {1, 1 << 40}},
		{rising(0, 300, 2), rising(0, 300, 3), rising(0, 300, 5), rising(299, 300, 1)},
		{rising(0, 100, 1), rising(100, 200, 1), rising(50, 150, 1)},
		{rising(100, 200, 1), rising(0, 100, 1)},
		{nil, {}, rising(0, 3, 1), nil},
	}
	for many := range 4 {
		each(subsets(4), many, func(l [][]int) { samples = append(samples, slices.Clone(l)) })
	}
	for salt := range 200 {
		samples = append(samples, mixed(salt, 1+salt%11, salt%40))
	}
	return append(samples, mixed(7, 300, 60), mixed(8, 1000, 3))
}

// badLists are lists one of which does not rise.
func badLists() [][][]int {
	var l [][][]int
	for _, bad := range [][]int{
		{1, 1}, {2, 1}, {0, 1, 1}, {0, 0, 1}, {0, 2, 1}, {3, 1, 2}, {0, 1, 2, 3, 3}, {5, 4, 3},
		{math.MaxInt, math.MinInt}, {0, math.MinInt}, {math.MinInt, math.MinInt}, {math.MaxInt, math.MaxInt}, {1, math.MinInt, math.MaxInt},
	} {
		l = append(l, [][]int{bad}, [][]int{bad, {1, 2}}, [][]int{{1, 2}, bad}, [][]int{nil, bad, nil}, [][]int{{1}, {2}, {3}, bad}, [][]int{bad, bad})
	}
	return l
}

// all are the numbers of lists, put in order, each once.
func all(l [][]int) []int {
	u := slices.Concat(l...)
	slices.Sort(u)
	return slices.Compact(u)
}

// walked is what lists come to by the chapter's words: of each of their numbers where each list has it.
func walked(l [][]int) []api.Stop {
	var s []api.Stop
	for _, at := range all(l) {
		x := api.Stop{At: at}
		for _, own := range l {
			x.In = append(x.In, slices.Index(own, at))
		}
		s = append(s, x)
	}
	return s
}

func sameStops(a, b []api.Stop) bool {
	return slices.EqualFunc(a, b, func(x, y api.Stop) bool { return x.At == y.At && slices.Equal(x.In, y.In) })
}

// P7.1

func TestRises(t *testing.T) {
	for _, c := range []struct {
		l    []int
		want bool
	}{
		{nil, true}, {[]int{}, true}, {[]int{5}, true}, {[]int{-5}, true}, {[]int{math.MinInt}, true}, {[]int{math.MaxInt}, true},
		{[]int{0, 1}, true}, {[]int{1, 0}, false}, {[]int{1, 1}, false}, {[]int{-2, -1, 0, 1}, true}, {[]int{-1, -2}, false},
		{[]int{0, 5, 1000}, true}, {[]int{0, 1, 2, 2}, false}, {[]int{0, 0, 1, 2}, false}, {[]int{0, 2, 1, 3}, false}, {[]int{3, 0, 1, 2}, false},
		{[]int{math.MinInt, math.MaxInt}, true}, {[]int{math.MaxInt, math.MinInt}, false}, {[]int{math.MinInt, 0, math.MaxInt}, true},
		{[]int{math.MaxInt - 1, math.MaxInt}, true}, {[]int{math.MaxInt, math.MaxInt}, false}, {[]int{math.MinInt, math.MinInt}, false},
		{rising(0, 100000, 1), true}, {append(rising(0, 100000, 1), 99999), false},
	} {
		if got := merge.Rises(c.l); got != c.want {
			t.Errorf("Rises of %v: got %v", c.l[:min(len(c.l), 8)], got)
		}
	}
}

func TestRisesOfAll(t *testing.T) {
	for n := range 4 * 4 * 4 * 4 {
		l := []int{n % 4, n / 4 % 4, n / 16 % 4, n / 64}
		want := l[0] < l[1] && l[1] < l[2] && l[2] < l[3]
		if got := merge.Rises(l); got != want {
			t.Errorf("Rises of %v: got %v", l, got)
		}
	}
}

func TestUnion(t *testing.T) {
	for _, l := range samples() {
		if got, e := merge.Union(l...); e != api.OK || !slices.Equal(got, all(l)) {
			t.Errorf("Union of %v: got %v, error %d; want %v", l, got, e, all(l))
		}
	}
}

func TestBoth(t *testing.T) {
	for _, l := range samples() {
		var want []int
		for _, at := range all(l) {
			if !slices.ContainsFunc(l, func(own []int) bool { return !slices.Contains(own, at) }) {
				want = append(want, at)
			}
		}
		if got, e := merge.Both(l...); e != api.OK || !slices.Equal(got, want) {
			t.Errorf("Both of %v: got %v, error %d; want %v", l, got, e, want)
		}
	}
}

func TestByHand(t *testing.T) {
	for _, c := range []struct {
		l           [][]int
		union, both []int
	}{
		{nil, nil, nil},
		{[][]int{}, nil, nil},
		{[][]int{nil}, nil, nil},
		{[][]int{nil, {}}, nil, nil},
		{[][]int{{7, 9}}, []int{7, 9}, []int{7, 9}},
		{[][]int{{7, 9}, nil}, []int{7, 9}, nil},
		{[][]int{nil, {7, 9}}, []int{7, 9}, nil},
		{[][]int{{1, 3}, {3}}, []int{1, 3}, []int{3}},
		{[][]int{{1, 3}, {1, 3}}, []int{1, 3}, []int{1, 3}},
		{[][]int{{1, 3}, {2, 4}}, []int{1, 2, 3, 4}, nil},
		{[][]int{{3, 4}, {1, 2}}, []int{1, 2, 3, 4}, nil},
		{[][]int{{-9, 0, 5}, {0, 5, 6}, {-9, 5, 6}}, []int{-9, 0, 5, 6}, []int{5}},
		{[][]int{{math.MaxInt}, {math.MinInt, math.MaxInt}}, []int{math.MinInt, math.MaxInt}, []int{math.MaxInt}},
	} {
		if got, e := merge.Union(c.l...); e != api.OK || !slices.Equal(got, c.union) {
			t.Errorf("Union of %v: got %v, error %d; want %v", c.l, got, e, c.union)
		}
		if got, e := merge.Both(c.l...); e != api.OK || !slices.Equal(got, c.both) {
			t.Errorf("Both of %v: got %v, error %d; want %v", c.l, got, e, c.both)
		}
	}
}

func TestWhatDoesNotRise(t *testing.T) {
	for _, l := range badLists() {
		if got, e := merge.Union(l...); len(got) != 0 || e != api.ErrArg {
			t.Errorf("Union of %v: got %v, error %d", l, got, e)
		}
		if got, e := merge.Both(l...); len(got) != 0 || e != api.ErrArg {
			t.Errorf("Both of %v: got %v, error %d", l, got, e)
		}
		if got, e := merge.Walk(l...); len(got) != 0 || e != api.ErrArg {
			t.Errorf("Walk of %v: got %v, error %d", l, got, e)
		}
	}
}

func TestOfManyLists(t *testing.T) {
	const many = 1 << 16
	// One number each, those of the first lists last; and one that all have.
	apart, same := make([][]int, many), make([][]int, many)
	for k := range apart {
		apart[k], same[k] = []int{many - 1 - k}, []int{k - many, 5, 10 + k}
	}
	if got, e := merge.Union(apart...); e != api.OK || !slices.Equal(got, rising(0, many, 1)) {
		t.Errorf("Union of %d lists: got %d, error %d", many, len(got), e)
	}
	if got, e := merge.Both(apart...); e != api.OK || len(got) != 0 {
		t.Errorf("Both of %d lists: got %d, error %d", many, len(got), e)
	}
	if got, e := merge.Union(same...); e != api.OK || len(got) != 2*many+1 || !merge.Rises(got) || got[many] != 5 {
		t.Errorf("Union of %d lists with one number of all: got %d, error %d", many, len(got), e)
	}
	if got, e := merge.Both(same...); e != api.OK || !slices.Equal(got, []int{5}) {
		t.Errorf("Both of %d lists with one number of all: got %v, error %d", many, got, e)
	}
	same[many-1] = nil
	if got, e := merge.Both(same...); e != api.OK || len(got) != 0 {
		t.Errorf("Both of %d lists, the last one empty: got %v, error %d", many, got, e)
	}
	same[many-1] = []int{5, 5}
	if got, e := merge.Both(same...); e != api.ErrArg || len(got) != 0 {
		t.Errorf("Both of %d lists, the last one not rising: got %v, error %d", many, got, e)
	}
}

func TestOfLongLists(t *testing.T) {
	const long = 1 << 18
	l := [][]int{rising(0, long, 1), rising(0, long, 2), rising(0, long, 3)}
	if got, e := merge.Union(l...); e != api.OK || !slices.Equal(got, l[0]) {
		t.Errorf("Union of long lists: got %d, error %d", len(got), e)
	}
	if got, e := merge.Both(l...); e != api.OK || !slices.Equal(got, rising(0, long, 6)) {
		t.Errorf("Both of long lists: got %d, error %d", len(got), e)
	}
	s, e := merge.Walk(l...)
	if e != api.OK || len(s) != long {
		t.Fatalf("Walk of long lists: got %d, error %d", len(s), e)
	}
	for n, x := range s {
		want := []int{n, -1, -1}
		if n%2 == 0 {
			want[1] = n / 2
		}
		if n%3 == 0 {
			want[2] = n / 3
		}
		if x.At != n || !slices.Equal(x.In, want) {
			t.Fatalf("Walk of long lists, at %d: got %v", n, x)
		}
	}
}

// P7.2

func TestWalk(t *testing.T) {
	for _, l := range samples() {
		if got, e := merge.Walk(l...); e != api.OK || !sameStops(got, walked(l)) {
			t.Errorf("Walk of %v: got %v, error %d; want %v", l, got, e, walked(l))
		}
	}
}

func TestWalkByHand(t *testing.T) {
	for _, c := range []struct {
		l    [][]int
		want []api.Stop
	}{
		{nil, nil},
		{[][]int{nil, nil}, nil},
		{[][]int{{7, 9}}, []api.Stop{{At: 7, In: []int{0}}, {At: 9, In: []int{1}}}},
		{[][]int{{1, 3}, {3}}, []api.Stop{{At: 1, In: []int{0, -1}}, {At: 3, In: []int{1, 0}}}},
		{[][]int{{3}, {1, 3}}, []api.Stop{{At: 1, In: []int{-1, 0}}, {At: 3, In: []int{0, 1}}}},
		{[][]int{nil, {-4}, nil}, []api.Stop{{At: -4, In: []int{-1, 0, -1}}}},
		{[][]int{{-1, 2}, {-1, 2}}, []api.Stop{{At: -1, In: []int{0, 0}}, {At: 2, In: []int{1, 1}}}},
		{[][]int{{5}, {4}, {3, 5}}, []api.Stop{{At: 3, In: []int{-1, -1, 0}}, {At: 4, In: []int{-1, 0, -1}}, {At: 5, In: []int{0, -1, 1}}}},
	} {
		if got, e := merge.Walk(c.l...); e != api.OK || !sameStops(got, c.want) {
			t.Errorf("Walk of %v: got %v, error %d; want %v", c.l, got, e, c.want)
		}
	}
}

// picked is what sets come to by the chapter's words.
func picked(s []api.Stop, sets [][]int) []api.Stop {
	var p []api.Stop
	for _, x := range s {
		some := false
		for _, set := range sets {
			has := 0
			for _, n := range set {
				if x.In[n] != -1 {
					has++
				}
			}
			some = some || has == len(set)
		}
		if some {
			p = append(p, x)
		}
	}
	return p
}

func wantPick(t *testing.T, s []api.Stop, sets ...[]int) {
	t.Helper()
	if got, e := merge.Pick(s, sets...); e != api.OK || !sameStops(got, picked(s, sets)) {
		t.Errorf("Pick of %v, %v: got %v, error %d; want %v", s, sets, got, e, picked(s, sets))
	}
}

func TestPick(t *testing.T) {
	// One stop for each way in which three lists have a number, or have it not.
	s, e := merge.Walk([]int{1, 3, 5, 7}, []int{2, 3, 6, 7}, []int{4, 5, 6, 7})
	if e != api.OK || len(s) != 7 {
		t.Fatalf("Walk: got %v, error %d", s, e)
	}
	for many := range 4 {
		each(subsets(3), many, func(sets [][]int) { wantPick(t, s, sets...) })
	}
	// Sets' numbers may come in any order, and more than once.
	wantPick(t, s, []int{2, 0})
	wantPick(t, s, []int{1, 1})
	wantPick(t, s, []int{2, 0, 2, 1}, []int{0, 0, 1})
	for salt := range 50 {
		l := mixed(salt, 5, 20)
		s, e := merge.Walk(l...)
		if e != api.OK {
			t.Fatalf("Walk of %v: error %d", l, e)
		}
		for k, set := range subsets(5) {
			wantPick(t, s, set, subsets(5)[(k*7+salt)%32])
		}
	}
}

func TestPickByHand(t *testing.T) {
	s := []api.Stop{{At: 1, In: []int{0, -1}}, {At: 2, In: []int{-1, 0}}, {At: 4, In: []int{1, 1}}}
	for _, c := range []struct {
		sets [][]int
		want []api.Stop
	}{
		{nil, nil},
		{[][]int{nil}, s},
		{[][]int{{}}, s},
		{[][]int{{0}}, []api.Stop{s[0], s[2]}},
		{[][]int{{1}}, s[1:]},
		{[][]int{{0, 1}}, s[2:]},
		{[][]int{{0}, {1}}, s},
		{[][]int{{1}, {0, 1}}, s[1:]},
		{[][]int{{0, 1}, nil}, s},
	} {
		if got, e := merge.Pick(s, c.sets...); e != api.OK || !sameStops(got, c.want) {
			t.Errorf("Pick of %v: got %v, error %d; want %v", c.sets, got, e, c.want)
		}
	}
}

func TestPickOfAnyStops(t *testing.T) {
	// They need not be those of a walk: in any order, more than once, of not as many lists, at places of any size.
	s := []api.Stop{
		{At: 9, In: []int{0, -1}}, {At: 3, In: []int{math.MaxInt, 1, -1}}, {At: 9, In: []int{0, -1}},
		{At: math.MinInt, In: []int{-1, 1 << 40, 2, 3}}, {At: math.MaxInt, In: []int{-1, -1}},
	}
	for many := range 3 {
		each(subsets(2), many, func(sets [][]int) { wantPick(t, s, sets...) })
	}
	none := []api.Stop{{At: 1}, {At: 2, In: []int{}}, {At: 3, In: []int{0}}}
	wantPick(t, none)
	wantPick(t, none, nil)
	wantPick(t, none, nil, []int{})
}

func TestPickErrors(t *testing.T) {
	two := []api.Stop{{At: 1, In: []int{0, -1}}, {At: 4, In: []int{1, 1}}}
	fewer := []api.Stop{{At: 1, In: []int{0, 0, 0}}, {At: 4, In: []int{1, 1}}}
	more := []api.Stop{{At: 1, In: []int{-1}}, {At: 4, In: []int{1, 1, 1, 1}}}
	for k, c := range []struct {
		s    []api.Stop
		sets [][]int
	}{
		{two, [][]int{{2}}},
		{two, [][]int{{-1}}},
		{two, [][]int{{0, 2}}},
		{two, [][]int{{2, 0}}},
		{two, [][]int{{0, -1, 1}}},
		{two, [][]int{{math.MinInt}}},
		{two, [][]int{{math.MaxInt}}},
		{two, [][]int{{1 << 32}}},
		{two, [][]int{{0}, {1}, {0, 1, 2}}},
		// One of the sets would pick all, or none: each is looked at.
		{two, [][]int{nil, {2}}},
		{two, [][]int{{2}, nil}},
		{two, [][]int{nil, {-1}}},
		{two, [][]int{{0}, {1}, {-3}}},
		{two[:1], [][]int{{1, 2}}},
		{two[1:], [][]int{{-2}}},
		// At one of the stops there are too few.
		{fewer, [][]int{{2}}},
		{fewer, [][]int{{0}, {2}}},
		{more, [][]int{{1}}},
		{more, [][]int{{0, 3}}},
		{[]api.Stop{{At: 1}}, [][]int{{0}}},
		{[]api.Stop{{At: 1, In: []int{0}}, {At: 2}}, [][]int{{0}}},
		{[]api.Stop{{At: 1}, {At: 2, In: []int{0}}}, [][]int{{0}}},
	} {
		if got, e := merge.Pick(c.s, c.sets...); len(got) != 0 || e != api.ErrRange {
			t.Errorf("%d: Pick of %v, %v: got %v, error %d", k, c.s, c.sets, got, e)
		}
	}
	// Of no stops nothing is asked.
	for _, sets := range [][][]int{nil, {nil}, {{0}}, {{-1}}, {{math.MaxInt}, {math.MinInt}}} {
		if got, e := merge.Pick(nil, sets...); len(got) != 0 || e != api.OK {
			t.Errorf("Pick of no stops, %v: got %v, error %d", sets, got, e)
		}
	}
}

// P7.3

func TestLeast(t *testing.T) {
	for _, c := range []struct {
		l    []int
		want int
	}{
		{[]int{5}, 0}, {[]int{0}, 0}, {[]int{math.MaxInt}, 0}, {[]int{4, 2, 9, 2}, 1}, {[]int{1, 2, 3}, 0}, {[]int{3, 2, 1}, 2},
		{[]int{7, 7, 7}, 0}, {[]int{-1, -2, -2, -1}, 1}, {[]int{0, math.MinInt, math.MaxInt, math.MinInt}, 1}, {[]int{math.MaxInt, math.MinInt}, 1},
		{[]int{math.MinInt, math.MaxInt}, 0}, {[]int{math.MaxInt, math.MaxInt}, 0}, {[]int{1, -1, 0}, 1},
	} {
		if got, is := merge.Least(c.l...); got != c.want || !is {
			t.Errorf("Least of %v: got %d, %v; want %d", c.l, got, is, c.want)
		}
	}
	for _, l := range [][]int{nil, {}} {
		if got, is := merge.Least(l...); got != 0 || is {
			t.Errorf("Least of none: got %d, %v", got, is)
		}
	}
}

// ordered is the order that the chapter tells, by trying each time all things from the least one on.
func ordered(after [][]int) ([]int, api.Errno) {
	var order []int
	for range after {
		n := 0
		for n < len(after) && (slices.Contains(order, n) || slices.ContainsFunc(after[n], func(x int) bool { return !slices.Contains(order, x) })) {
			n++
		}
		if n == len(after) {
			return nil, api.ErrNone
		}
		order = append(order, n)
	}
	return order, api.OK
}

func wantOrder(t *testing.T, after [][]int) {
	t.Helper()
	want, f := ordered(after)
	if got, e := merge.Order(after...); e != f || !slices.Equal(got, want) {
		t.Errorf("Order of %v: got %v, error %d; want %v, error %d", after, got, e, want, f)
	}
}

func TestOrder(t *testing.T) {
	for many := range 5 {
		each(subsets(many), many, func(after [][]int) { wantOrder(t, after) })
	}
	for salt := range 400 {
		next := counted(salt)
		many := 1 + next(30)
		// By a hidden order there is one; of each third sample one thing more comes behind another one.
		hidden := rising(0, many, 1)
		for k := range hidden {
			j := k + next(many-k)
			hidden[k], hidden[j] = hidden[j], hidden[k]
		}
		after := make([][]int, many)
		for range next(3 * many) {
			a, b := next(many), next(many)
			if a > b {
				after[hidden[a]] = append(after[hidden[a]], hidden[b])
			}
		}
		if salt%3 == 0 {
			n := next(many)
			after[n] = append(after[n], next(many))
		}
		wantOrder(t, after)
	}
}

func TestOrderByHand(t *testing.T) {
	for _, c := range []struct {
		after [][]int
		want  []int
		e     api.Errno
	}{
		{nil, nil, api.OK},
		{[][]int{nil}, []int{0}, api.OK},
		{[][]int{nil, {}, nil}, []int{0, 1, 2}, api.OK},
		{[][]int{{2}, nil, {1}}, []int{1, 2, 0}, api.OK},
		{[][]int{{1}, nil}, []int{1, 0}, api.OK},
		{[][]int{nil, {0}, {1}}, []int{0, 1, 2}, api.OK},
		{[][]int{{3, 3}, {0}, nil, {2}}, []int{2, 3, 0, 1}, api.OK},
		// The least that may come, though it could not come at first.
		{[][]int{{2}, nil, nil, nil}, []int{1, 2, 0, 3}, api.OK},
		{[][]int{{4}, {4}, nil, nil, nil}, []int{2, 3, 4, 0, 1}, api.OK},
		{[][]int{nil, {3}, nil, nil, {0}}, []int{0, 2, 3, 1, 4}, api.OK},
		{[][]int{{1, 2}, {2}, nil}, []int{2, 1, 0}, api.OK},
		{[][]int{{0}}, nil, api.ErrNone},
		{[][]int{nil, {1}}, nil, api.ErrNone},
		{[][]int{{1}, {0}, nil}, nil, api.ErrNone},
		{[][]int{{1}, {2}, {0}}, nil, api.ErrNone},
		{[][]int{nil, {0, 2}, {1}}, nil, api.ErrNone},
		{[][]int{{1}, {1}}, nil, api.ErrNone},
	} {
		if got, e := merge.Order(c.after...); !slices.Equal(got, c.want) || e != c.e {
			t.Errorf("Order of %v: got %v, error %d; want %v, error %d", c.after, got, e, c.want, c.e)
		}
	}
}

func TestOrderErrors(t *testing.T) {
	for _, after := range [][][]int{
		{{1}}, {{-1}}, {{math.MaxInt}}, {{math.MinInt}}, {{1 << 32}}, {nil, {2}}, {{2}, nil}, {nil, {0, -1}}, {nil, nil, {0, 1, 3}},
		// That one is none is told ahead of there being no order.
		{{0}, {2}}, {{0, 2}, nil}, {{1}, {0}, {3}}, {{1}, {0, -1}}, {{3}, {1}, {2}}, {{0, 0, 0, 5}},
	} {
		if got, e := merge.Order(after...); len(got) != 0 || e != api.ErrRange {
			t.Errorf("Order of %v: got %v, error %d", after, got, e)
		}
	}
}

func TestOrderOfMany(t *testing.T) {
	const many = 100000
	up, down, star := make([][]int, many), make([][]int, many), make([][]int, many)
	for n := 1; n < many; n++ {
		up[n], down[n-1], star[n-1] = []int{n - 1}, []int{n}, []int{many - 1}
	}
	fall := rising(0, many, 1)
	slices.Reverse(fall)
	for k, c := range []struct {
		after [][]int
		want  []int
	}{
		{make([][]int, many), rising(0, many, 1)}, {up, rising(0, many, 1)}, {down, fall},
		{star, append([]int{many - 1}, rising(0, many-1, 1)...)},
	} {
		if got, e := merge.Order(c.after...); e != api.OK || !slices.Equal(got, c.want) {
			t.Errorf("%d: Order of %d: got %d, error %d", k, many, len(got), e)
		}
	}
	down[many-1] = []int{0}
	if got, e := merge.Order(down...); len(got) != 0 || e != api.ErrNone {
		t.Errorf("Order of a ring of %d: got %d, error %d", many, len(got), e)
	}
	// Each behind all that are less: one list, of which each has as much as it needs.
	full := rising(0, 3000, 1)
	after := make([][]int, len(full))
	for n := range after {
		after[n] = full[:n]
	}
	if got, e := merge.Order(after...); e != api.OK || !slices.Equal(got, full) {
		t.Errorf("Order of %d, each behind all that are less: got %d, error %d", len(full), len(got), e)
	}
}

// P7.4

func TestWalkedIsEachList(t *testing.T) {
	for _, l := range samples() {
		s, e := merge.Walk(l...)
		if e != api.OK {
			t.Fatalf("Walk of %v: error %d", l, e)
		}
		var at []int
		for _, x := range s {
			at = append(at, x.At)
		}
		if u, e := merge.Union(l...); e != api.OK || !slices.Equal(at, u) || !merge.Rises(at) {
			t.Errorf("Walk of %v: got stops at %v; Union %v, error %d", l, at, u, e)
		}
		for k, own := range l {
			var got, places []int
			for _, x := range s {
				if len(x.In) != len(l) {
					t.Fatalf("Walk of %v: got %v", l, x)
				}
				if x.In[k] != -1 {
					got, places = append(got, x.At), append(places, x.In[k])
				}
			}
			if !slices.Equal(got, own) || !slices.Equal(places, rising(0, len(own), 1)) {
				t.Errorf("Walk of %v: of list %d got %v, at places %v", l, k, got, places)
			}
		}
	}
}

func TestWhatAllStopsHave(t *testing.T) {
	for _, l := range samples() {
		s, e := merge.Walk(l...)
		if e != api.OK {
			t.Fatalf("Walk of %v: error %d", l, e)
		}
		p, e := merge.Pick(s, rising(0, len(l), 1))
		if e != api.OK {
			t.Fatalf("Pick of all of %v: error %d", l, e)
		}
		var at []int
		for _, x := range p {
			at = append(at, x.At)
		}
		if b, e := merge.Both(l...); e != api.OK || !slices.Equal(b, at) {
			t.Errorf("Both of %v: got %v, error %d; all stops have %v", l, b, e, at)
		}
	}
}

func TestEachComesOnceBehindAll(t *testing.T) {
	each(subsets(4), 4, func(after [][]int) {
		order, e := merge.Order(after...)
		if e == api.ErrNone {
			return
		}
		if once := slices.Sorted(slices.Values(order)); e != api.OK || !slices.Equal(once, rising(0, 4, 1)) {
			t.Errorf("Order of %v: got %v, error %d", after, order, e)
			return
		}
		for n, l := range after {
			for _, ahead := range l {
				if slices.Index(order, ahead) >= slices.Index(order, n) {
					t.Errorf("Order of %v: got %v, with %d not behind %d", after, order, n, ahead)
				}
			}
		}
	})
}

func TestThereIsNoOrder(t *testing.T) {
	// There is one, if one of all orders of the things has each behind those that it should.
	orders := [][]int{{0, 1, 2}, {0, 2, 1}, {1, 0, 2}, {1, 2, 0}, {2, 0, 1}, {2, 1, 0}}
	each(subsets(3), 3, func(after [][]int) {
		goes := func(order []int) bool {
			for k, n := range order {
				if slices.ContainsFunc(after[n], func(x int) bool { return !slices.Contains(order[:k], x) }) {
					return false
				}
			}
			return true
		}
		want, f := []int(nil), api.ErrNone
		// The first of them that goes is the one that has the least thing each time.
		if k := slices.IndexFunc(orders, goes); k >= 0 {
			want, f = orders[k], api.OK
		}
		if got, e := merge.Order(after...); e != f || !slices.Equal(got, want) {
			t.Errorf("Order of %v: got %v, error %d; want %v, error %d", after, got, e, want, f)
		}
	})
}

// R2: what is handed in is left as it is, and what is told is new.

// roomy are lists with room behind each, that must not be written to.
func roomy(l ...[]int) [][]int {
	r := make([][]int, len(l), len(l)+1)
	for k, x := range l {
		r[k] = append(slices.Clone(x), 77, 78)[:len(x)]
	}
	return r
}

// behind are several lists' numbers, with what stands in the room behind each of them.
func behind(l ...[]int) []int {
	var r []int
	for _, x := range l {
		r = append(r, x[:len(x)+2]...)
	}
	return r
}

// handed is what each call is handed: lists that rise, stops, sets and things, each with room behind it.
type handed struct {
	lists, sets, after [][]int
	stops              []api.Stop
}

func hand() handed {
	h := handed{
		lists: roomy([]int{1, 4, 6, 9}, []int{1, 4, 9}, []int{1, 4, 5, 9}),
		sets:  roomy([]int{2, 0}, []int{1}),
		after: roomy([]int{3, 1, 3}, []int{2}, nil, []int{2, 1}),
	}
	for k, in := range roomy([]int{0, -1, -1}, []int{1, -1, 0}, []int{-1, 0, 5}) {
		h.stops = append(h.stops, api.Stop{At: 10 * k, In: in})
	}
	return h
}

// numbers are all that is handed, with what stands in the room behind.
func (h handed) numbers() []int {
	r := behind(slices.Concat(h.lists, h.sets, h.after)...)
	for _, x := range h.stops {
		r = append(append(r, x.At), behind(x.In)...)
	}
	return r
}

// spoil writes into all that is handed.
func (h handed) spoil() {
	for _, l := range slices.Concat(h.lists, h.sets, h.after) {
		fill(l, -9)
	}
	for k := range h.stops {
		fill(h.stops[k].In, -9)
		h.stops[k].At = -9
	}
	for _, l := range [][][]int{h.lists, h.sets, h.after} {
		clear(l)
	}
}

// fill writes into a list, and into what is behind it.
func fill(l []int, n int) {
	l = l[:cap(l)]
	for k := range l {
		l[k] = n
	}
}

// calls are all that tell lists: their lists, and their stops.
func (h handed) calls() map[string]func() ([]int, []api.Stop, api.Errno) {
	list := func(l []int, e api.Errno) ([]int, []api.Stop, api.Errno) { return l, nil, e }
	stops := func(s []api.Stop, e api.Errno) ([]int, []api.Stop, api.Errno) { return nil, s, e }
	same := func() []api.Stop { return []api.Stop{h.stops[1], h.stops[1], h.stops[0]} }
	return map[string]func() ([]int, []api.Stop, api.Errno){
		"Union":                  func() ([]int, []api.Stop, api.Errno) { return list(merge.Union(h.lists...)) },
		"Union of one":           func() ([]int, []api.Stop, api.Errno) { return list(merge.Union(h.lists[:1]...)) },
		"Both":                   func() ([]int, []api.Stop, api.Errno) { return list(merge.Both(h.lists...)) },
		"Both of one":            func() ([]int, []api.Stop, api.Errno) { return list(merge.Both(h.lists[0])) },
		"Both of one list twice": func() ([]int, []api.Stop, api.Errno) { return list(merge.Both(h.lists[0], h.lists[0])) },
		"Walk":                   func() ([]int, []api.Stop, api.Errno) { return stops(merge.Walk(h.lists...)) },
		"Walk of one list twice": func() ([]int, []api.Stop, api.Errno) { return stops(merge.Walk(h.lists[0], h.lists[0])) },
		"Pick":                   func() ([]int, []api.Stop, api.Errno) { return stops(merge.Pick(h.stops, h.sets...)) },
		"Pick of all":            func() ([]int, []api.Stop, api.Errno) { return stops(merge.Pick(h.stops, nil)) },
		"Pick of one stop twice": func() ([]int, []api.Stop, api.Errno) { return stops(merge.Pick(same(), nil)) },
		"Order":                  func() ([]int, []api.Stop, api.Errno) { return list(merge.Order(h.after...)) },
		"Order of all":           func() ([]int, []api.Stop, api.Errno) { return list(merge.Order(make([][]int, 9)...)) },
	}
}

func TestNothingIsChanged(t *testing.T) {
	h := hand()
	unchanged := func(what string) {
		t.Helper()
		if !slices.Equal(h.numbers(), hand().numbers()) {
			t.Fatalf("%s changed what it was handed", what)
		}
	}
	merge.Rises(h.lists[0])
	merge.Least(h.after[0]...)
	unchanged("a call that tells no list")
	for what, f := range h.calls() {
		l, s, e := f()
		if e != api.OK || len(l)+len(s) == 0 {
			t.Fatalf("%s: got %v, %v, error %d", what, l, s, e)
		}
		unchanged(what)
		fill(l, -9)
		for _, x := range s {
			fill(x.In, -9)
		}
		clear(s[:cap(s)])
		unchanged(what)
	}
}

func TestNothingIsKept(t *testing.T) {
	for what := range hand().calls() {
		h := hand()
		l, s, e := h.calls()[what]()
		wantL, wantS, f := hand().calls()[what]()
		if e != api.OK || f != api.OK {
			t.Fatalf("%s: error %d, and %d", what, e, f)
		}
		h.spoil()
		if !slices.Equal(l, wantL) || !sameStops(s, wantS) {
			t.Errorf("%s: got %v, %v, once what was handed in is written to; want %v, %v", what, l, s, wantL, wantS)
		}
		// Nor does what was told before count, written to as it may be.
		fill(l, -9)
		for _, x := range s {
			fill(x.In, -9)
		}
		if l, s, e := hand().calls()[what](); e != api.OK || !slices.Equal(l, wantL) || !sameStops(s, wantS) {
			t.Errorf("%s: got %v, %v, error %d, asked once more; want %v, %v", what, l, s, e, wantL, wantS)
		}
	}
}

func TestNoTwoStopsAreShared(t *testing.T) {
	for what, f := range hand().calls() {
		_, s, e := f()
		if e != api.OK {
			t.Fatalf("%s: error %d", what, e)
		}
		// From behind, as what stands behind a list is its own, too: writing there must not reach one that is written already.
		for n, x := range slices.Backward(s) {
			fill(x.In, 100+n)
		}
		for n, x := range s {
			if slices.ContainsFunc(x.In, func(k int) bool { return k != 100+n }) {
				t.Errorf("%s: stop %d is written to by another one's: got %v", what, n, x.In)
			}
		}
	}
}
