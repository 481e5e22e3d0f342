package run_test

import (
	"math/big"
	"slices"
	"strconv"
	"strings"

	"purfle/api"
	"purfle/code"
	"purfle/valid"
)

// What the chapters' words say, told another way than the program does: code is gone through by its text, line by line and word by word; what registers come to is reckoned in numbers of any size, and brought back to 64 bits.

// told is how far code has come: registers and arrays by their words, which lines were done, how many numbers were pushed.
type told struct {
	registers map[string]int64
	arrays    map[string][]int64
	path      []int
	pushed    int
}

// around is a number of any size, brought back to 64 bits.
func around(n *big.Int) int64 {
	all := new(big.Int).Lsh(big.NewInt(1), 64)
	return int64(new(big.Int).Mod(n, all).Uint64())
}

// reckoned is what two numbers are by a line's word.
func reckoned(word string, a, b int64) int64 {
	x, y, n := big.NewInt(a), big.NewInt(b), new(big.Int)
	switch word {
	case "add":
		return around(n.Add(x, y))
	case "sub":
		return around(n.Sub(x, y))
	}
	return around(n.Mul(x, y))
}

// whole is the number of words, the sign ahead of it may be one of them.
func whole(w ...string) int {
	n, _ := strconv.Atoi(strings.Join(w, ""))
	return n
}

// stands tells whether an array has a number there.
func (s *told) stands(array, register string) bool {
	n := s.registers[register]
	return n >= 0 && n <= int64(len(s.arrays[array]))-1
}

// does does a line that stands at a place, and tells where it goes on, -1 if nowhere.
func (s *told) does(w []string, at, cells int) (int, api.Errno) {
	r, a := s.registers, s.arrays
	switch w[0] {
	case "halt":
		return -1, api.OK
	case "set":
		r[w[1]] = int64(whole(w[2:]...))
	case "move":
		r[w[1]] = r[w[2]]
	case "add", "sub", "mul":
		r[w[1]] = reckoned(w[0], r[w[2]], r[w[3]])
	case "load":
		if !s.stands(w[2], w[3]) {
			return 0, api.ErrRange
		}
		r[w[1]] = a[w[2]][r[w[3]]]
	case "store":
		if !s.stands(w[1], w[2]) {
			return 0, api.ErrRange
		}
		a[w[1]][r[w[2]]] = r[w[3]]
	case "len":
		r[w[1]] = int64(len(a[w[2]]))
	case "push":
		if s.pushed++; s.pushed > cells {
			return 0, api.ErrCells
		}
		a[w[1]] = slices.Concat(a[w[1]], []int64{r[w[2]]})
	case "jump":
		return whole(w[1]), api.OK
	case "less":
		if r[w[1]] < r[w[2]] {
			return whole(w[3]), api.OK
		}
	case "same":
		if r[w[1]] == r[w[2]] {
			return whole(w[3]), api.OK
		}
	}
	return at + 1, api.OK
}

// all goes on from the first line till it ends, or something is wrong.
func (s *told) all(c api.Code, fuel, cells int) api.Errno {
	text, _ := code.Text(c)
	lines := strings.Split(text, "\n")[1:]
	for at := 0; at >= 0; {
		if len(s.path) == fuel {
			return api.ErrFuel
		}
		s.path = append(s.path, at)
		to, e := s.does(strings.Fields(lines[at]), at, cells)
		if e != api.OK {
			return e
		}
		at = to
	}
	return api.OK
}

// runOf is what code comes to, and its path.
func runOf(c api.Code, fuel, cells int, in ...[]int64) (api.Result, []int, api.Errno) {
	if e := valid.Check(c); e != api.OK {
		return api.Result{}, nil, e
	}
	if fuel < 0 || cells < 0 || len(in) < c.In || c.In < len(in) {
		return api.Result{}, nil, api.ErrArg
	}
	s := told{registers: map[string]int64{}, arrays: map[string][]int64{}}
	for k, l := range in {
		s.arrays["a"+strconv.Itoa(k)] = slices.Clone(l)
	}
	if e := s.all(c, fuel, cells); e != api.OK {
		return api.Result{}, nil, e
	}
	r := api.Result{Steps: len(s.path), Cells: s.pushed}
	for k := c.In; k < c.Arrays; k++ {
		r.Out = append(r.Out, s.arrays["a"+strconv.Itoa(k)])
	}
	return r, s.path, api.OK
}
