package lower

import "purfle/api"

// pen writes code: it has what is written, a register that is 1, and one for what is asked for on the way.
type pen struct {
	api.Code
	one   int
	found int
}

// register is a new one.
func (p *pen) register() int {
	p.Regs++
	return p.Regs - 1
}

// here is the place of what is written next.
func (p *pen) here() int { return len(p.L) }

// write writes an instruction, and tells its place.
func (p *pen) write(op, a, b, c int) int {
	p.L = append(p.L, api.Ins{Op: op, A: a, B: b, C: c})
	return p.here() - 1
}

// set lets a register be a number that an instruction may have.
func (p *pen) set(r int, n int64) {
	p.L = append(p.L, api.Ins{Op: api.SetI, A: r, N: n})
}

// number is a new register that is any number.
func (p *pen) number(n int64) int {
	r := p.register()
	if -api.MaxN < n && n < api.MaxN {
		p.set(r, n)
		return r
	}
	// An instruction may not have it whole.
	const bits = 32
	p.set(r, n>>bits)
	p.set(p.found, 1<<bits)
	p.write(api.MulI, r, r, p.found)
	p.set(p.found, n&(1<<bits-1))
	p.write(api.AddI, r, r, p.found)
	return r
}

// jump goes on to the place that what it answers is told.
func (p *pen) jump() (to func(place int)) {
	at := p.write(api.JumpI, 0, 0, 0)
	return func(place int) { p.L[at].A = place }
}

// when goes on, if an instruction that holds two registers against each other finds it so, to the place that what it answers is told.
func (p *pen) when(op, a, b int) (to func(place int)) {
	at := p.write(op, a, b, 0)
	return func(place int) { p.L[at].C = place }
}

// walk lets a register go on, one by one, as long as it is below another one; to go to next is to go on by one, and out is told where it goes on behind all.
func (p *pen) walk(r, end int) (next int, out func(place int)) {
	begin := p.jump()
	next = p.write(api.AddI, r, r, p.one)
	begin(p.here())
	in := p.when(api.LessI, r, end)
	out = p.jump()
	in(p.here())
	return next, out
}
