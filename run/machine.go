package run

import "purfle/api"

// machine runs code: it has what that came to so far, its registers, what is handed in, how many steps and pushes there may be, what each of its instructions does, and where it goes on.
type machine struct {
	api.Result
	code  api.Code
	regs  []int64
	in    [][]int64
	fuel  int
	cells int
	does  []func(api.Ins) api.Errno
	at    int
	ended bool
}

// begin is a machine ahead of the first instruction of code that is checked.
func begin(c api.Code, fuel, cells int, in [][]int64) *machine {
	m := &machine{code: c, regs: make([]int64, c.Regs), in: in, fuel: fuel, cells: cells}
	m.Out = make([][]int64, c.Arrays-c.In)
	acts := m.acts()
	// Looked up here, once for each instruction, as a step comes far more often.
	for _, x := range c.L {
		m.does = append(m.does, acts[x.Op])
	}
	return m
}

// acts is what instructions do, by Op.
func (m *machine) acts() map[int]func(api.Ins) api.Errno {
	return map[int]func(api.Ins) api.Errno{
		api.HaltI:  m.halt,
		api.SetI:   m.set,
		api.MoveI:  m.move,
		api.AddI:   m.add,
		api.SubI:   m.sub,
		api.MulI:   m.mul,
		api.LoadI:  m.load,
		api.StoreI: m.store,
		api.LenI:   m.length,
		api.PushI:  m.push,
		api.JumpI:  m.jump,
		api.LessI:  m.less,
		api.SameI:  m.same,
	}
}

// finish goes on till the code has ended, or something is wrong.
func (m *machine) finish() api.Errno {
	for !m.ended {
		if e := m.step(); e != api.OK {
			return e
		}
	}
	return api.OK
}

// step does the next instruction.
func (m *machine) step() api.Errno {
	if m.Steps == m.fuel {
		return api.ErrFuel
	}
	at := m.at
	m.Steps++
	// Ahead of what it does, as that may go on elsewhere.
	m.at++
	return m.does[at](m.code.L[at])
}

func (m *machine) halt(api.Ins) api.Errno {
	m.ended = true
	return api.OK
}

func (m *machine) set(x api.Ins) api.Errno {
	m.regs[x.A] = x.N
	return api.OK
}

func (m *machine) move(x api.Ins) api.Errno {
	m.regs[x.A] = m.regs[x.B]
	return api.OK
}

func (m *machine) add(x api.Ins) api.Errno {
	m.regs[x.A] = m.regs[x.B] + m.regs[x.C]
	return api.OK
}

func (m *machine) sub(x api.Ins) api.Errno {
	m.regs[x.A] = m.regs[x.B] - m.regs[x.C]
	return api.OK
}

func (m *machine) mul(x api.Ins) api.Errno {
	m.regs[x.A] = m.regs[x.B] * m.regs[x.C]
	return api.OK
}

func (m *machine) load(x api.Ins) api.Errno {
	l, n := m.array(x.B), m.regs[x.C]
	if !has(l, n) {
		return api.ErrRange
	}
	m.regs[x.A] = l[n]
	return api.OK
}

func (m *machine) store(x api.Ins) api.Errno {
	l, n := m.array(x.A), m.regs[x.B]
	if !has(l, n) {
		return api.ErrRange
	}
	l[n] = m.regs[x.C]
	return api.OK
}

func (m *machine) length(x api.Ins) api.Errno {
	m.regs[x.A] = int64(len(m.array(x.B)))
	return api.OK
}

func (m *machine) push(x api.Ins) api.Errno {
	if m.Cells == m.cells {
		return api.ErrCells
	}
	m.Cells++
	own := x.A - m.code.In
	m.Out[own] = append(m.Out[own], m.regs[x.B])
	return api.OK
}

func (m *machine) jump(x api.Ins) api.Errno {
	m.at = x.A
	return api.OK
}

func (m *machine) less(x api.Ins) api.Errno {
	if m.regs[x.A] < m.regs[x.B] {
		m.at = x.C
	}
	return api.OK
}

func (m *machine) same(x api.Ins) api.Errno {
	if m.regs[x.A] == m.regs[x.B] {
		m.at = x.C
	}
	return api.OK
}

// array is the one of a number, be it handed in or not.
func (m *machine) array(n int) []int64 {
	if n < m.code.In {
		return m.in[n]
	}
	return m.Out[n-m.code.In]
}

// has tells whether a list has a number at a place.
func has(l []int64, n int64) bool {
	return 0 <= n && n < int64(len(l))
}
