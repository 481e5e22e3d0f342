// Package box is layer 1: see shared/doc/01-box.md.
package box

import (
	"iter"
	"slices"

	"purfle/api"
)

// Cells is how many cells a shape has.
func Cells(shape ...int) (int, api.Errno) {
	if len(shape) > api.MaxRank || slices.ContainsFunc(shape, negative) {
		return 0, api.ErrArg
	}
	// A mode without places leaves no cells, however many the others would make.
	if slices.Contains(shape, 0) {
		return 0, api.OK
	}
	n := 1
	for _, size := range shape {
		// Held against a quotient, as the product itself may go around.
		if size > (api.MaxCells-1)/n {
			return 0, api.ErrLarge
		}
		n *= size
	}
	return n, api.OK
}

// At is a place's number.
func At(shape, c []int) (int, api.Errno) {
	if _, e := Cells(shape...); e != api.OK {
		return 0, e
	}
	if !inside(shape, c) {
		return 0, api.ErrRange
	}
	n := 0
	for mode, step := range fromBehind(shape) {
		n += c[mode] * step
	}
	return n, api.OK
}

// Coord is the place of a number.
func Coord(shape []int, n int) ([]int, api.Errno) {
	cells, e := Cells(shape...)
	if e != api.OK {
		return nil, e
	}
	if n < 0 || n >= cells {
		return nil, api.ErrRange
	}
	c := make([]int, len(shape))
	// A number below the cells says that there are some: no size or step is 0.
	for mode, step := range fromBehind(shape) {
		c[mode] = n / step % shape[mode]
	}
	return c, api.OK
}

// Zero is a tensor of zeros.
func Zero(shape ...int) (api.Dense, api.Errno) {
	n, e := laid(shape)
	if e != api.OK {
		return api.Dense{}, e
	}
	return api.Dense{Shape: slices.Clone(shape), V: make([]int64, n)}, api.OK
}

// Get is a cell's number.
func Get(d api.Dense, c ...int) (int64, api.Errno) {
	if e := Check(d); e != api.OK {
		return 0, e
	}
	n, e := At(d.Shape, c)
	if e != api.OK {
		return 0, e
	}
	return d.V[n], api.OK
}

// Add is the sum of two tensors, cell by cell.
func Add(a, b api.Dense) (api.Dense, api.Errno) {
	return both(a, b, func(x, y int64) int64 { return x + y })
}

// Mul is the product of two tensors, cell by cell.
func Mul(a, b api.Dense) (api.Dense, api.Errno) {
	return both(a, b, func(x, y int64) int64 { return x * y })
}

// Scale is a tensor, each cell times a number.
func Scale(a api.Dense, by int64) (api.Dense, api.Errno) {
	return both(a, a, func(x, _ int64) int64 { return x * by })
}

// Sum is a tensor without one of its modes, that is summed over.
func Sum(a api.Dense, mode int) (api.Dense, api.Errno) {
	if e := Check(a); e != api.OK {
		return api.Dense{}, e
	}
	if mode < 0 || mode >= len(a.Shape) {
		return api.Dense{}, api.ErrRange
	}
	// Where the mode has no places, what is left without it may be too large.
	d, e := Zero(slices.Concat(a.Shape[:mode], a.Shape[mode+1:])...)
	if e != api.OK {
		return api.Dense{}, e
	}
	step := stepOf(a.Shape, mode)
	span := step * a.Shape[mode]
	for n, v := range a.V {
		d.V[n/span*step+n%step] += v
	}
	return d, api.OK
}

// Check tells whether a tensor may be.
func Check(d api.Dense) api.Errno {
	n, e := laid(d.Shape)
	if e != api.OK {
		return e
	}
	if len(d.V) != n {
		return api.ErrArg
	}
	return api.OK
}

// Same tells whether two tensors may be, and are the same.
func Same(a, b api.Dense) bool {
	// What is the same as one that may be, may be too.
	return Check(a) == api.OK && slices.Equal(a.Shape, b.Shape) && slices.Equal(a.V, b.V)
}

func negative(size int) bool { return size < 0 }

// inside tells whether c is a place in a shape.
func inside(shape, c []int) bool {
	if len(c) != len(shape) {
		return false
	}
	for mode, at := range c {
		if at < 0 || at >= shape[mode] {
			return false
		}
	}
	return true
}

// laid is how many cells a shape has, of one that can be laid out.
func laid(shape []int) (int, api.Errno) {
	n, e := Cells(shape...)
	if e != api.OK {
		return 0, e
	}
	if n > api.MaxLaid {
		return 0, api.ErrLarge
	}
	return n, api.OK
}

// fromBehind goes through the modes from the last one on, as each one's step (how far apart its neighbours' numbers are) stands on the sizes behind it.
func fromBehind(shape []int) iter.Seq2[int, int] {
	return func(yield func(mode, step int) bool) {
		step := 1
		for mode := len(shape) - 1; mode >= 0; mode-- {
			if !yield(mode, step) {
				return
			}
			step *= shape[mode]
		}
	}
}

// stepOf is one mode's step.
func stepOf(shape []int, mode int) int {
	for k, step := range fromBehind(shape) {
		if k == mode {
			return step
		}
	}
	return 0
}

// both puts two tensors together, cell by cell.
func both(a, b api.Dense, f func(x, y int64) int64) (api.Dense, api.Errno) {
	if e := Check(a); e != api.OK {
		return api.Dense{}, e
	}
	if e := Check(b); e != api.OK {
		return api.Dense{}, e
	}
	if !slices.Equal(a.Shape, b.Shape) {
		return api.Dense{}, api.ErrShape
	}
	d := api.Dense{Shape: slices.Clone(a.Shape), V: make([]int64, len(a.V))}
	for n, x := range a.V {
		d.V[n] = f(x, b.V[n])
	}
	return d, api.OK
}
