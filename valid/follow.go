package valid

import (
	"purfle/api"
	"purfle/code"
)

// registers tells of each one whether it is set.
type registers [api.MaxRegs]bool

// behind are those that are set once an instruction is done.
func (r registers) behind(x api.Ins) registers {
	if n, is := code.Writes(x); is {
		r[n] = true
	}
	return r
}

// both are those that are set in this and in another.
func (r registers) both(other registers) registers {
	for n, is := range other {
		r[n] = r[n] && is
	}
	return r
}

// list are their numbers.
func (r registers) list() []int {
	var l []int
	for n, is := range r {
		if is {
			l = append(l, n)
		}
	}
	return l
}

// follow goes all ways through code that may be: which instructions are reached, and what is surely set ahead of each of these.
func follow(c api.Code) ([]bool, []registers) {
	reached, ahead := make([]bool, len(c.L)), make([]registers, len(c.L))
	var open []int
	come := func(to int, r registers) {
		if reached[to] {
			r = r.both(ahead[to])
			// What is surely set there only gets less, so that this ends.
			if r == ahead[to] {
				return
			}
		}
		reached[to], ahead[to] = true, r
		open = append(open, to)
	}
	come(0, registers{})
	for len(open) > 0 {
		at := open[len(open)-1]
		open = open[:len(open)-1]
		r := ahead[at].behind(c.L[at])
		for _, to := range code.Next(c.L[at], at) {
			come(to, r)
		}
	}
	return reached, ahead
}
