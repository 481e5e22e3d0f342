package valid_test

import (
	"slices"

	"purfle/api"
	"purfle/code"
)

// What the chapter's words say, told another way than the program does: register by register, one is not surely set ahead of an instruction, if there is a way to it on which none sets that one; ways are gone by sweeping over all instructions, till nothing is new. Of small code all ways are gone, with what is set on each of them.

// readsOf are the registers that an instruction asks for.
func readsOf(x api.Ins) []int {
	switch x.Op {
	case api.MoveI, api.PushI:
		return []int{x.B}
	case api.AddI, api.SubI, api.MulI, api.StoreI:
		return []int{x.B, x.C}
	case api.LoadI:
		return []int{x.C}
	case api.LessI, api.SameI:
		return []int{x.A, x.B}
	}
	return nil
}

// writesOf is the register that an instruction sets, -1 if it sets none.
func writesOf(x api.Ins) int {
	switch x.Op {
	case api.SetI, api.MoveI, api.AddI, api.SubI, api.MulI, api.LoadI, api.LenI:
		return x.A
	}
	return -1
}

// nextOf is where an instruction may go on.
func nextOf(x api.Ins, at int) []int {
	switch x.Op {
	case api.HaltI:
		return nil
	case api.JumpI:
		return []int{x.A}
	case api.LessI, api.SameI:
		return []int{at + 1, x.C}
	}
	return []int{at + 1}
}

// comes tells, instruction by instruction, whether there is a way to it on which none sets a register.
func comes(c api.Code, register int) []bool {
	l := make([]bool, len(c.L))
	l[0] = true
	for more := true; more; {
		more = false
		for at, x := range c.L {
			if !l[at] || writesOf(x) == register && register >= 0 {
				continue
			}
			for _, to := range nextOf(x, at) {
				more = more || !l[to]
				l[to] = true
			}
		}
	}
	return l
}

// reachOf tells, instruction by instruction, whether it is reached.
func reachOf(c api.Code) []bool { return comes(c, -1) }

// setOf are the registers that are surely set ahead of each instruction.
func setOf(c api.Code) [][]int {
	l, reached := make([][]int, len(c.L)), reachOf(c)
	for r := range c.Regs {
		for at, is := range comes(c, r) {
			if reached[at] && !is {
				l[at] = append(l[at], r)
			}
		}
	}
	return l
}

// unsetOf are the places of those that ask for others.
func unsetOf(c api.Code) []int {
	var l []int
	set, reached := setOf(c), reachOf(c)
	for at, x := range c.L {
		for _, r := range readsOf(x) {
			if reached[at] && !slices.Contains(set[at], r) && !slices.Contains(l, at) {
				l = append(l, at)
			}
		}
	}
	return l
}

// checkOf is what is wrong with code.
func checkOf(c api.Code) api.Errno {
	if e := code.Check(c); e != api.OK {
		return e
	}
	if len(unsetOf(c)) > 0 {
		return api.ErrName
	}
	for _, x := range c.L {
		if (x.Op == api.StoreI || x.Op == api.PushI) && x.A < c.In {
			return api.ErrRange
		}
	}
	return api.OK
}

// anewOf is the place of an instruction among those that are reached.
func anewOf(c api.Code, at int) int {
	many := 0
	for _, is := range reachOf(c)[:at] {
		if is {
			many++
		}
	}
	return many
}

// trimOf is code without those that are not reached.
func trimOf(c api.Code) api.Code {
	own := api.Code{Regs: c.Regs, Arrays: c.Arrays, In: c.In}
	for at, is := range reachOf(c) {
		if !is {
			continue
		}
		x := c.L[at]
		switch x.Op {
		case api.JumpI:
			x.A = anewOf(c, x.A)
		case api.LessI, api.SameI:
			x.C = anewOf(c, x.C)
		}
		own.L = append(own.L, x)
	}
	return own
}

// loopsOf are the places of those that may go back.
func loopsOf(c api.Code) []int {
	var l []int
	for at, is := range reachOf(c) {
		if is && slices.Min(append(nextOf(c.L[at], at), len(c.L))) <= at {
			l = append(l, at)
		}
	}
	return l
}

// here is where a way has come to, and which registers were set on it, a bit for each.
type here struct {
	at  int
	set uint64
}

// allWays are all places that ways come to, with what is set there.
func allWays(c api.Code) map[here]struct{} {
	seen, open := map[here]struct{}{}, []here{{}}
	for len(open) > 0 {
		h := open[0]
		open = open[1:]
		if _, was := seen[h]; was {
			continue
		}
		seen[h] = struct{}{}
		x := c.L[h.at]
		if r := writesOf(x); r >= 0 {
			h.set |= 1 << r
		}
		for _, to := range nextOf(x, h.at) {
			open = append(open, here{to, h.set})
		}
	}
	return seen
}

// setOnAll are the registers that are set on all ways to each instruction, by these ways themselves, and whether it is reached.
func setOnAll(c api.Code) ([][]int, []bool) {
	l, reached, set := make([][]int, len(c.L)), make([]bool, len(c.L)), make([]uint64, len(c.L))
	for k := range set {
		set[k] = 1<<c.Regs - 1
	}
	for h := range allWays(c) {
		reached[h.at] = true
		set[h.at] &= h.set
	}
	for at := range l {
		for r := range c.Regs {
			if reached[at] && set[at]>>r&1 == 1 {
				l[at] = append(l[at], r)
			}
		}
	}
	return l, reached
}
