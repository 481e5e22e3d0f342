package lower

import "purfle/api"

// track is how far code has come down a tensor: the levels that are left, and the index of each mode; which array is the next one; the register of the child that it is at, and of where the children of an open level end.
type track struct {
	form  []api.Spec
	index []string
	array int
	child int
	end   int
}

// goes tells whether the next level is of an index.
func (x *track) goes(name string) bool {
	return len(x.form) > 0 && x.index[x.form[0].Mode] == name
}

// pass leaves a level, whose child is told, behind.
func (x *track) pass(child int) {
	x.form = x.form[1:]
	x.array += 2
	x.child = child
}

// writer writes a term's code: it has the tensors that are not at their numbers yet, a register that is 0, and of each index those of its place and its size.
type writer struct {
	pen
	tracks []*track
	zero   int
	at     map[string]int
	size   map[string]int
}

// codeOf is the code of a term whose indices are ordered.
func codeOf(t api.Term, index []string, dims []api.Dim, f [][]api.Spec) api.Code {
	w := begin(dims)
	for k, x := range t.F {
		w.tracks = append(w.tracks, &track{form: f[k], index: x.Index, array: w.In, child: w.zero})
		w.In += 2*len(f[k]) + 1
	}
	w.Arrays = w.In + len(index) + 1
	w.loop(dims, w.load(w.number(t.K)), func(value int) {
		for k, i := range index {
			w.write(api.PushI, w.In+k, w.at[i], 0)
		}
		w.write(api.PushI, w.In+len(index), value, 0)
	})
	w.write(api.HaltI, 0, 0, 0)
	return w.Code
}

// begin is a writer that has written what all else asks for.
func begin(dims []api.Dim) *writer {
	w := &writer{at: map[string]int{}, size: map[string]int{}}
	w.found = w.register()
	w.zero, w.one = w.number(0), w.number(1)
	for _, d := range dims {
		w.at[d.Name] = w.register()
		w.size[d.Name] = w.number(int64(d.Size))
	}
	return w
}

// loop writes loops over indices, one in another, and in the last one what is done with the register of the value.
func (w *writer) loop(dims []api.Dim, value int, do func(value int)) {
	if len(dims) == 0 {
		do(value)
		return
	}
	next, out := w.through(dims[0].Name)
	w.loop(dims[1:], w.load(value), do)
	w.write(api.JumpI, next, 0, 0)
	out(w.here())
}

// through lets an index go through the places that all of its levels have: to go to next is to go on to the next one, and out is told where it goes on behind all.
func (w *writer) through(name string) (next int, out func(place int)) {
	at, packed := w.at[name], w.packed(name)
	for _, x := range packed {
		w.open(x)
	}
	if len(packed) == 0 {
		w.set(at, 0)
		next, out = w.walk(at, w.size[name])
	} else {
		// Only where the first one has a place the others are looked at.
		first := packed[0]
		next, out = w.walk(first.child, first.end)
		w.write(api.LoadI, at, first.array+1, first.child)
		first.pass(first.child)
		for _, x := range packed[1:] {
			out = both(out, w.meet(x, at, next))
		}
	}
	for _, x := range w.tracks {
		for x.goes(name) {
			w.down(x, name, next)
		}
	}
	return next, out
}

// packed are the tensors whose next level is of an index, and packed.
func (w *writer) packed(name string) []*track {
	var l []*track
	for _, x := range w.tracks {
		if x.goes(name) && x.form[0].Kind == api.PackedL {
			l = append(l, x)
		}
	}
	return l
}

// open goes to the first child of a packed level.
func (w *writer) open(x *track) {
	first, end := w.register(), w.register()
	w.write(api.LoadI, first, x.array, x.child)
	w.write(api.AddI, end, x.child, w.one)
	w.write(api.LoadI, end, x.array, end)
	x.child, x.end = first, end
}

// meet lets an open level go on to the place where an index is, that goes on to its next one if the level has not that place; what it answers is told where it goes on if the level has no further places.
func (w *writer) meet(x *track, at, next int) (out func(place int)) {
	further, out := w.walk(x.child, x.end)
	w.write(api.LoadI, w.found, x.array+1, x.child)
	w.write(api.LessI, w.found, at, further)
	met := w.when(api.SameI, w.found, at)
	w.write(api.JumpI, next, 0, 0)
	met(w.here())
	x.pass(x.child)
	return out
}

// down goes down a level at the place where an index is, that goes on to its next one if the level has not that place.
func (w *writer) down(x *track, name string, next int) {
	at := w.at[name]
	if x.form[0].Kind == api.PackedL {
		w.open(x)
		w.meet(x, at, next)(next)
		return
	}
	if x.child == w.zero {
		x.pass(at)
		return
	}
	child := w.register()
	w.write(api.MulI, child, x.child, w.size[name])
	w.write(api.AddI, child, child, at)
	x.pass(child)
}

// load is the register of a value, times the numbers of the tensors that have come to theirs.
func (w *writer) load(value int) int {
	var left []*track
	for _, x := range w.tracks {
		if len(x.form) > 0 {
			left = append(left, x)
			continue
		}
		product := w.register()
		w.write(api.LoadI, product, x.array, x.child)
		w.write(api.MulI, product, product, value)
		value = product
	}
	w.tracks = left
	return value
}

// both tells two the same place.
func both(a, b func(place int)) func(place int) {
	return func(place int) {
		a(place)
		b(place)
	}
}
