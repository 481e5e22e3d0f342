package perm_test

import (
	"math"
	"slices"
	"testing"

	"purfle/api"
	"purfle/perm"
)

// upTo is how many numbers the orders have of which all are gone through.
const upTo = 7

// factorial12 is how many orders there are of as many numbers as there may be.
const factorial12 = 479001600

// allOrders are all orders of n numbers, in turn: by the first number, then by the second one, and so on.
func allOrders(n int) [][]int {
	var l [][]int
	var further func(ahead []int)
	further = func(ahead []int) {
		if len(ahead) == n {
			l = append(l, slices.Clone(ahead))
			return
		}
		for k := range n {
			if !slices.Contains(ahead, k) {
				further(append(slices.Clone(ahead), k))
			}
		}
	}
	further(nil)
	return l
}

// everyOrder are all orders of up to so many numbers, and some of up to as many as there may be.
func everyOrder(n int) [][]int {
	var l [][]int
	for k := range n + 1 {
		l = append(l, allOrders(k)...)
	}
	for k := n + 1; k <= api.MaxPerm; k++ {
		for salt := range 20 {
			l = append(l, mixed(k, salt))
		}
		l = append(l, rising(k), falling(k))
	}
	return l
}

// mixed is some order of n numbers.
func mixed(n, salt int) []int {
	p := rising(n)
	s := uint64(salt*100 + n)
	for k := n - 1; k > 0; k-- {
		s = s*6364136223846793005 + 1442695040888963407
		j := int(s>>33) % (k + 1)
		p[k], p[j] = p[j], p[k]
	}
	return p
}

func rising(n int) []int {
	p := make([]int, n)
	for k := range p {
		p[k] = k
	}
	return p
}

func falling(n int) []int {
	p := rising(n)
	slices.Reverse(p)
	return p
}

// noOrders are lists that are no order.
func noOrders() [][]int {
	l := [][]int{
		{1}, {-1}, {2}, {math.MinInt}, {math.MaxInt},
		{0, 0}, {1, 1}, {1, 2}, {0, 2}, {2, 0}, {0, -1}, {-1, 0}, {1, math.MinInt}, {math.MaxInt, 0},
		{0, 1, 1}, {0, 0, 1}, {1, 2, 3}, {0, 1, 3}, {2, 1, 2}, {0, 2, -2},
		{0, 1, 2, 3, 3}, {4, 3, 2, 1, 4}, {4, 3, 2, 1, 5},
		rising(13), falling(13), make([]int, 13), rising(64), rising(1000), make([]int, 1<<20),
	}
	// Of as many numbers as there may be, one is there once more, or is none.
	for k := range api.MaxPerm {
		for _, n := range []int{(k + 1) % api.MaxPerm, api.MaxPerm, -1} {
			p := rising(api.MaxPerm)
			p[k] = n
			l = append(l, p)
		}
	}
	return l
}

func wantList(t *testing.T, what string, got []int, e api.Errno, want []int) {
	t.Helper()
	if e != api.OK || !slices.Equal(got, want) {
		t.Errorf("%s: got %v, error %d; want %v", what, got, e, want)
	}
}

// wantError holds that there is just that error, and no list beside it.
func wantError(t *testing.T, what string, got []int, e, want api.Errno) {
	t.Helper()
	if e != want || len(got) != 0 {
		t.Errorf("%s: got %v, error %d; want none, error %d", what, got, e, want)
	}
}

// must is a list that there is no error beside.
func must(t *testing.T, l []int, e api.Errno) []int {
	t.Helper()
	if e != api.OK {
		t.Fatalf("got error %d", e)
	}
	return l
}

// order is a list that is told, and that is an order of n numbers.
func order(t *testing.T, n int, p []int, e api.Errno) []int {
	t.Helper()
	must(t, p, e)
	if e := perm.Check(p); e != api.OK || len(p) != n {
		t.Fatalf("got %v, that is no order of %d numbers", p, n)
	}
	return p
}

// P3.1

func TestCheck(t *testing.T) {
	for _, p := range append(everyOrder(upTo), nil, []int{}) {
		if e := perm.Check(p); e != api.OK {
			t.Errorf("Check of %v: got error %d", p, e)
		}
	}
	for _, p := range noOrders() {
		if e := perm.Check(p); e != api.ErrArg {
			t.Errorf("Check of %d numbers, that are no order: got error %d", len(p), e)
		}
	}
}

// Of all lists of a few numbers, the orders alone are some.
func TestCheckOfAllLists(t *testing.T) {
	for n := range 5 {
		all := allOrders(n)
		var further func(l []int)
		further = func(l []int) {
			if len(l) < n {
				for k := -1; k <= n; k++ {
					further(append(slices.Clone(l), k))
				}
				return
			}
			want := api.ErrArg
			if slices.ContainsFunc(all, func(p []int) bool { return slices.Equal(p, l) }) {
				want = api.OK
			}
			if e := perm.Check(l); e != want {
				t.Errorf("Check of %v: got error %d, want %d", l, e, want)
			}
		}
		further(nil)
	}
}

func TestPlain(t *testing.T) {
	for n := range api.MaxPerm + 1 {
		p, e := perm.Plain(n)
		wantList(t, "Plain", p, e, rising(n))
	}
	p, e := perm.Plain(12)
	wantList(t, "Plain of 12", p, e, []int{0, 1, 2, 3, 4, 5, 6, 7, 8, 9, 10, 11})
	for _, n := range []int{-1, -2, 13, 14, 100, math.MinInt, math.MaxInt} {
		p, e := perm.Plain(n)
		wantError(t, "Plain", p, e, api.ErrArg)
	}
}

func TestInverse(t *testing.T) {
	p, e := perm.Inverse([]int{2, 0, 3, 1})
	wantList(t, "Inverse", p, e, []int{1, 3, 0, 2})
	p, e = perm.Inverse([]int{1, 2, 0})
	wantList(t, "Inverse", p, e, []int{2, 0, 1})
	for _, p := range everyOrder(upTo) {
		q, e := perm.Inverse(p)
		order(t, len(p), q, e)
		for k := range p {
			if q[p[k]] != k {
				t.Fatalf("Inverse of %v: got %v", p, q)
			}
		}
	}
	for _, p := range noOrders() {
		q, e := perm.Inverse(p)
		wantError(t, "Inverse", q, e, api.ErrArg)
	}
}

func TestAfter(t *testing.T) {
	p, e := perm.After([]int{2, 0, 3, 1}, []int{3, 2, 1, 0})
	wantList(t, "After", p, e, []int{1, 3, 0, 2})
	p, e = perm.After([]int{1, 2, 0}, []int{1, 0, 2})
	wantList(t, "After", p, e, []int{2, 1, 0})
	p, e = perm.After([]int{1, 0, 2}, []int{1, 2, 0})
	wantList(t, "After, the other way round", p, e, []int{0, 2, 1})
	p, e = perm.After(nil, []int{})
	wantList(t, "After of none", p, e, nil)
	for _, p := range everyOrder(5) {
		for _, q := range everyOrder(5) {
			r, e := perm.After(p, q)
			if len(p) != len(q) {
				wantError(t, "After of another length", r, e, api.ErrShape)
				continue
			}
			order(t, len(p), r, e)
			for k := range r {
				if r[k] != p[q[k]] {
					t.Fatalf("After of %v and %v: got %v", p, q, r)
				}
			}
		}
	}
}

func TestAfterErrors(t *testing.T) {
	for _, p := range noOrders() {
		for _, q := range [][]int{nil, {0}, {1, 0}, {0, 1, 2}, rising(12), p, {1}, rising(13)} {
			r, e := perm.After(p, q)
			wantError(t, "After of what is no order", r, e, api.ErrArg)
			r, e = perm.After(q, p)
			wantError(t, "After of what is no order", r, e, api.ErrArg)
		}
	}
}

func TestTurn(t *testing.T) {
	l, e := perm.Turn([]int{10, 11, 12, 13}, 2, 0, 3, 1)
	wantList(t, "Turn", l, e, []int{12, 10, 13, 11})
	l, e = perm.Turn([]int{7, 7, math.MinInt, math.MaxInt, -1}, 4, 3, 2, 1, 0)
	wantList(t, "Turn of what is no order", l, e, []int{-1, math.MaxInt, math.MinInt, 7, 7})
	l, e = perm.Turn([]int{5}, 0)
	wantList(t, "Turn of one", l, e, []int{5})
	l, e = perm.Turn(nil)
	wantList(t, "Turn of none", l, e, nil)
	l, e = perm.Turn([]int{}, []int{}...)
	wantList(t, "Turn of none", l, e, nil)
	for _, p := range everyOrder(upTo) {
		l := make([]int, len(p))
		for k := range l {
			l[k] = 1000 - k*k
		}
		r, e := perm.Turn(l, p...)
		if must(t, r, e); len(r) != len(p) {
			t.Fatalf("Turn of %v by %v: got %v", l, p, r)
		}
		for k := range r {
			if r[k] != l[p[k]] {
				t.Fatalf("Turn of %v by %v: got %v", l, p, r)
			}
		}
	}
}

func TestTurnErrors(t *testing.T) {
	for _, p := range noOrders() {
		for _, n := range []int{0, 1, 2, len(p) - 1, len(p), len(p) + 1, 13} {
			l, e := perm.Turn(make([]int, n), p...)
			wantError(t, "Turn by what is no order", l, e, api.ErrArg)
		}
	}
	for _, p := range everyOrder(3) {
		for _, n := range []int{0, 1, 2, 3, 11, 12, 13, 1000} {
			if n != len(p) {
				l, e := perm.Turn(make([]int, n), p...)
				wantError(t, "Turn of a list of another length", l, e, api.ErrShape)
			}
		}
	}
	l, e := perm.Turn([]int{3, 4})
	wantError(t, "Turn by an order of none", l, e, api.ErrShape)
}

// P3.2

func TestOrdersInTurn(t *testing.T) {
	for n := range upTo + 1 {
		all := allOrders(n)
		for rank, p := range all {
			if r, e := perm.Rank(p); r != rank || e != api.OK {
				t.Errorf("Rank of %v: got %d, error %d; want %d", p, r, e, rank)
			}
			q, e := perm.Nth(n, rank)
			wantList(t, "Nth", q, e, p)
			q, more, e := perm.Next(p)
			want := p
			if rank+1 < len(all) {
				want = all[rank+1]
			}
			wantList(t, "Next", q, e, want)
			if more != (rank+1 < len(all)) {
				t.Errorf("Next of %v: got %v", p, more)
			}
		}
		for _, k := range []int{-1, len(all), len(all) + 1, math.MinInt, math.MaxInt} {
			q, e := perm.Nth(n, k)
			wantError(t, "Nth of what is no rank", q, e, api.ErrRange)
		}
	}
}

// isNext holds that q is the one of the next rank behind p, by the words of the chapter.
func isNext(t *testing.T, p, q []int) {
	t.Helper()
	if slices.Equal(p, q) {
		t.Fatalf("Next of %v: got the same", p)
	}
	k := 0
	for p[k] == q[k] {
		k++
	}
	// None is between them: where they differ q has the least one that is greater, and as little as may be stands behind it, as much as may be behind p's.
	last := slices.Clone(p[k+1:])
	slices.SortFunc(last, func(a, b int) int { return b - a })
	behind := slices.Clone(q[k+1:])
	slices.Sort(behind)
	greater := slices.DeleteFunc(slices.Clone(p[k+1:]), func(n int) bool { return n < p[k] })
	if len(greater) == 0 || slices.Min(greater) != q[k] || !slices.Equal(last, p[k+1:]) || !slices.Equal(behind, q[k+1:]) {
		t.Fatalf("Next of %v: got %v", p, q)
	}
}

func TestOrdersOfMoreInTurn(t *testing.T) {
	for _, p := range everyOrder(0) {
		rank, e := perm.Rank(p)
		if e != api.OK {
			t.Fatalf("Rank of %v: got error %d", p, e)
		}
		q, more, e := perm.Next(p)
		order(t, len(p), q, e)
		r, e := perm.Nth(len(p), rank)
		wantList(t, "Nth of Rank", r, e, p)
		if slices.Equal(p, falling(len(p))) {
			if more || !slices.Equal(p, q) {
				t.Errorf("Next of the last one %v: got %v, %v", p, q, more)
			}
			continue
		}
		if isNext(t, p, q); !more {
			t.Errorf("Next of %v: got no", p)
		}
		if r, e := perm.Rank(q); r != rank+1 || e != api.OK {
			t.Errorf("Rank of %v, next of %v: got %d, error %d; want %d", q, p, r, e, rank+1)
		}
	}
}

func TestRanksOfMost(t *testing.T) {
	for _, x := range []struct {
		rank int
		p    []int
	}{
		{999999, []int{2, 7, 8, 3, 9, 1, 5, 4, 6, 0}},
		{0, rising(12)},
		{1, []int{0, 1, 2, 3, 4, 5, 6, 7, 8, 9, 11, 10}},
		{39916799, []int{0, 11, 10, 9, 8, 7, 6, 5, 4, 3, 2, 1}},
		{39916800, []int{1, 0, 2, 3, 4, 5, 6, 7, 8, 9, 10, 11}},
		{factorial12 - 2, []int{11, 10, 9, 8, 7, 6, 5, 4, 3, 2, 0, 1}},
		{factorial12 - 1, falling(12)},
	} {
		if r, e := perm.Rank(x.p); r != x.rank || e != api.OK {
			t.Errorf("Rank of %v: got %d, error %d; want %d", x.p, r, e, x.rank)
		}
		p, e := perm.Nth(len(x.p), x.rank)
		wantList(t, "Nth", p, e, x.p)
	}
	p, more, e := perm.Next([]int{0, 11, 10, 9, 8, 7, 6, 5, 4, 3, 2, 1})
	wantList(t, "Next", p, e, []int{1, 0, 2, 3, 4, 5, 6, 7, 8, 9, 10, 11})
	if !more {
		t.Error("Next: got no")
	}
}

func TestRanksErrors(t *testing.T) {
	for _, p := range noOrders() {
		if r, e := perm.Rank(p); r != 0 || e != api.ErrArg {
			t.Errorf("Rank of %d numbers, that are no order: got %d, error %d", len(p), r, e)
		}
		q, more, e := perm.Next(p)
		if wantError(t, "Next of what is no order", q, e, api.ErrArg); more {
			t.Errorf("Next of %d numbers, that are no order: got yes", len(p))
		}
	}
	for _, n := range []int{-1, 13, 14, 20, 21, 64, math.MinInt, math.MaxInt} {
		for _, k := range []int{0, 1, -1, factorial12, math.MinInt, math.MaxInt} {
			p, e := perm.Nth(n, k)
			wantError(t, "Nth of no such many", p, e, api.ErrArg)
		}
	}
	for _, k := range []int{-1, factorial12, factorial12 + 1, 1 << 32, -factorial12, math.MinInt, math.MaxInt} {
		p, e := perm.Nth(12, k)
		wantError(t, "Nth of what is no rank", p, e, api.ErrRange)
	}
}

// P3.3

func wantCycles(t *testing.T, p []int, want ...[]int) {
	t.Helper()
	c, e := perm.Cycles(p)
	if e != api.OK || !slices.EqualFunc(c, want, slices.Equal) {
		t.Errorf("Cycles of %v: got %v, error %d; want %v", p, c, e, want)
	}
}

func TestCycles(t *testing.T) {
	wantCycles(t, []int{1, 0, 2}, []int{0, 1}, []int{2})
	wantCycles(t, []int{2, 1, 4, 5, 0, 3}, []int{0, 2, 4}, []int{1}, []int{3, 5})
	wantCycles(t, []int{3, 2, 1, 0}, []int{0, 3}, []int{1, 2})
	wantCycles(t, []int{2, 0, 3, 1}, []int{0, 2, 3, 1})
	wantCycles(t, nil)
	wantCycles(t, []int{})
	wantCycles(t, []int{0}, []int{0})
	wantCycles(t, []int{0, 1, 2}, []int{0}, []int{1}, []int{2})
	wantCycles(t, []int{11, 0, 1, 2, 3, 4, 5, 6, 7, 8, 9, 10}, []int{0, 11, 10, 9, 8, 7, 6, 5, 4, 3, 2, 1})
}

func TestCyclesOfAll(t *testing.T) {
	for _, p := range everyOrder(upTo) {
		cycles, e := perm.Cycles(p)
		if e != api.OK {
			t.Fatalf("Cycles of %v: error %d", p, e)
		}
		var all []int
		for n, c := range cycles {
			if len(c) == 0 || c[0] != slices.Min(c) || n > 0 && c[0] < cycles[n-1][0] {
				t.Fatalf("Cycles of %v: got %v", p, cycles)
			}
			for k, from := range c {
				if p[from] != c[(k+1)%len(c)] {
					t.Fatalf("Cycles of %v: got %v", p, cycles)
				}
			}
			all = append(all, c...)
		}
		if slices.Sort(all); !slices.Equal(all, rising(len(p))) {
			t.Fatalf("Cycles of %v: got %v", p, cycles)
		}
	}
}

func TestOdd(t *testing.T) {
	for _, x := range []struct {
		p   []int
		odd bool
	}{
		{nil, false}, {[]int{0}, false}, {[]int{0, 1}, false}, {[]int{1, 0}, true}, {[]int{1, 2, 0}, false}, {[]int{2, 1, 0}, true},
		{[]int{3, 2, 1, 0}, false}, {[]int{1, 2, 3, 0}, true}, {rising(12), false}, {falling(12), false}, {falling(11), true},
	} {
		if got, e := perm.Odd(x.p); got != x.odd || e != api.OK {
			t.Errorf("Odd of %v: got %v, error %d; want %v", x.p, got, e, x.odd)
		}
	}
	for _, p := range everyOrder(upTo) {
		if got, e := perm.Odd(p); got != odd(p) || e != api.OK {
			t.Errorf("Odd of %v: got %v, error %d; want %v", p, got, e, odd(p))
		}
	}
}

// odd counts the pairs that are the wrong way round.
func odd(p []int) bool {
	pairs := 0
	for j := range p {
		for i := range j {
			if p[i] > p[j] {
				pairs++
			}
		}
	}
	return pairs%2 != 0
}

func TestCyclesAndOddErrors(t *testing.T) {
	for _, p := range noOrders() {
		if c, e := perm.Cycles(p); len(c) != 0 || e != api.ErrArg {
			t.Errorf("Cycles of %d numbers, that are no order: got %v, error %d", len(p), c, e)
		}
		if odd, e := perm.Odd(p); odd || e != api.ErrArg {
			t.Errorf("Odd of %d numbers, that are no order: got %v, error %d", len(p), odd, e)
		}
	}
}

// P3.4

func TestAfterItsInverse(t *testing.T) {
	for _, p := range everyOrder(upTo) {
		q, e := perm.Inverse(p)
		must(t, q, e)
		plain, e := perm.Plain(len(p))
		must(t, plain, e)
		r, e := perm.After(p, q)
		wantList(t, "an order after its inverse", r, e, plain)
		r, e = perm.After(q, p)
		wantList(t, "an inverse after its order", r, e, plain)
		r, e = perm.Inverse(q)
		wantList(t, "an inverse's inverse", r, e, p)
	}
}

func TestRanksAndOrdersAreOneToOne(t *testing.T) {
	for n := range upTo + 1 {
		seen := map[[upTo]int]bool{}
		p, more, e := perm.Next(rising(n))
		for rank := range len(allOrders(n)) {
			q, f := perm.Nth(n, rank)
			order(t, n, q, f)
			var key [upTo]int
			copy(key[:], q)
			if seen[key] {
				t.Fatalf("Nth of %d and %d: got %v once more", n, rank, q)
			}
			seen[key] = true
			if rank == 0 {
				continue
			}
			// By Next alone they come as well, one by one.
			if !slices.Equal(p, q) || !more || e != api.OK {
				t.Fatalf("Next, %d: got %v, %v, error %d; want %v", rank, p, more, e, q)
			}
			p, more, e = perm.Next(p)
		}
		if more || e != api.OK {
			t.Errorf("Next behind the last one of %d: got %v, %v, error %d", n, p, more, e)
		}
	}
	for k := -3; k < factorial12; k += 12345679 {
		rank := max(k, 0)
		p, e := perm.Nth(12, rank)
		order(t, 12, p, e)
		if r, e := perm.Rank(p); r != rank || e != api.OK {
			t.Errorf("Rank of %v: got %d, error %d; want %d", p, r, e, rank)
		}
	}
}

func TestOddAfterOdd(t *testing.T) {
	for _, p := range everyOrder(4) {
		for _, q := range everyOrder(4) {
			if len(p) != len(q) {
				continue
			}
			r, e := perm.After(p, q)
			must(t, r, e)
			a, e := perm.Odd(p)
			b, f := perm.Odd(q)
			c, g := perm.Odd(r)
			if c != (a != b) || e != api.OK || f != api.OK || g != api.OK {
				t.Errorf("Odd of %v, %v, and one after the other: got %v, %v, %v", p, q, a, b, c)
			}
		}
	}
}

func TestTurnedThereAndBack(t *testing.T) {
	for _, p := range everyOrder(upTo) {
		l := make([]int, len(p))
		for k := range l {
			l[k] = 50 - 7*k
		}
		q, e := perm.Inverse(p)
		must(t, q, e)
		there, e := perm.Turn(l, p...)
		must(t, there, e)
		back, e := perm.Turn(there, q...)
		wantList(t, "turned there and back", back, e, l)
		other := mixed(len(p), 5)
		both, e := perm.After(p, other)
		must(t, both, e)
		one, e := perm.Turn(there, other...)
		must(t, one, e)
		got, e := perm.Turn(l, both...)
		wantList(t, "turned by one after another", got, e, one)
	}
}

// R2: what is handed in is left as it is, and what is told is new.

// calls are all that tell lists, of two orders and of a list.
func calls(p, q, l []int) map[string]func() ([][]int, api.Errno) {
	one := func(l []int, e api.Errno) ([][]int, api.Errno) { return [][]int{l}, e }
	return map[string]func() ([][]int, api.Errno){
		"Plain":             func() ([][]int, api.Errno) { return one(perm.Plain(6)) },
		"Inverse":           func() ([][]int, api.Errno) { return one(perm.Inverse(p)) },
		"After":             func() ([][]int, api.Errno) { return one(perm.After(p, q)) },
		"After of itself":   func() ([][]int, api.Errno) { return one(perm.After(p, p)) },
		"Turn":              func() ([][]int, api.Errno) { return one(perm.Turn(l, p...)) },
		"Turn by the plain": func() ([][]int, api.Errno) { return one(perm.Turn(l, 0, 1, 2, 3, 4, 5)) },
		"Turn of the order": func() ([][]int, api.Errno) { return one(perm.Turn(p, p...)) },
		"Nth":               func() ([][]int, api.Errno) { return one(perm.Nth(6, 100)) },
		"Next":              func() ([][]int, api.Errno) { n, _, e := perm.Next(p); return one(n, e) },
		"Next of the last":  func() ([][]int, api.Errno) { n, _, e := perm.Next(q); return one(n, e) },
		"Cycles":            func() ([][]int, api.Errno) { return perm.Cycles(p) },
	}
}

// handed is two orders and a list, each with room behind it; the second order is the last one.
func handed() (p, q, l []int) {
	long := []int{2, 1, 4, 5, 0, 3, 77, 78}
	last := []int{5, 4, 3, 2, 1, 0, 79, 80}
	list := []int{10, 20, 30, 40, 50, 60, 81, 82}
	return long[:6], last[:6], list[:6]
}

func TestNothingIsChanged(t *testing.T) {
	p, q, l := handed()
	unchanged := func(what string) {
		t.Helper()
		wantP, wantQ, wantL := handed()
		if !slices.Equal(p[:8], wantP[:8]) || !slices.Equal(q[:8], wantQ[:8]) || !slices.Equal(l[:8], wantL[:8]) {
			t.Fatalf("%s changed what it was handed", what)
		}
	}
	perm.Check(p)
	perm.Rank(p)
	perm.Odd(p)
	unchanged("a call that tells no list")
	for what, f := range calls(p, q, l) {
		got, e := f()
		if e != api.OK {
			t.Fatalf("%s: error %d", what, e)
		}
		unchanged(what)
		for _, c := range got {
			c = c[:cap(c)]
			for k := range c {
				c[k] = -9
			}
		}
		unchanged(what)
	}
}

func TestNothingIsKept(t *testing.T) {
	for what := range calls(handed()) {
		p, q, l := handed()
		got, e := calls(p, q, l)[what]()
		want, f := calls(handed())[what]()
		if e != api.OK || f != api.OK {
			t.Fatalf("%s: error %d, and %d", what, e, f)
		}
		for k := range p[:8] {
			p[:8][k], q[:8][k], l[:8][k] = -9, -9, -9
		}
		if !slices.EqualFunc(got, want, slices.Equal) {
			t.Errorf("%s: got %v, once what was handed in is written to; want %v", what, got, want)
		}
		// Nor does what was told before count, written to as it may be.
		for _, c := range got {
			for k := range c {
				c[k] = -9
			}
		}
		if again, e := calls(handed())[what](); e != api.OK || !slices.EqualFunc(again, want, slices.Equal) {
			t.Errorf("%s: got %v, error %d, asked once more; want %v", what, again, e, want)
		}
	}
}

func TestNoTwoCyclesAreShared(t *testing.T) {
	for _, p := range everyOrder(5) {
		cycles, e := perm.Cycles(p)
		if e != api.OK {
			t.Fatalf("Cycles of %v: error %d", p, e)
		}
		// From behind, as what stands behind a cycle is its own, too: writing there must not reach one that is written already.
		for n, c := range slices.Backward(cycles) {
			c = c[:cap(c)]
			for k := range c {
				c[k] = 100 + n
			}
		}
		for n, c := range cycles {
			if slices.ContainsFunc(c, func(k int) bool { return k != 100+n }) {
				t.Errorf("Cycles of %v: cycle %d is written to by another one's: got %v", p, n, c)
			}
		}
	}
}
