package code

import "purfle/api"

// What stands behind words.
const (
	nothing = iota
	sets    // a register that is set
	asks    // a register whose number is asked for
	array
	place  // of an instruction
	count  // how many there are
	number // of any sign
)

// shape is what a line is made of: its word, and what stands behind that, part by part.
type shape struct {
	word   string
	behind [4]int
}

// shapes are those of the instructions, by Op; their parts are A, B, C and N.
var shapes = [...]shape{
	api.HaltI:  {"halt", [4]int{}},
	api.SetI:   {"set", [4]int{sets, nothing, nothing, number}},
	api.MoveI:  {"move", [4]int{sets, asks}},
	api.AddI:   {"add", [4]int{sets, asks, asks}},
	api.SubI:   {"sub", [4]int{sets, asks, asks}},
	api.MulI:   {"mul", [4]int{sets, asks, asks}},
	api.LoadI:  {"load", [4]int{sets, array, asks}},
	api.StoreI: {"store", [4]int{array, asks, asks}},
	api.LenI:   {"len", [4]int{sets, array}},
	api.PushI:  {"push", [4]int{array, asks}},
	api.JumpI:  {"jump", [4]int{place}},
	api.LessI:  {"less", [4]int{asks, asks, place}},
	api.SameI:  {"same", [4]int{asks, asks, place}},
}

// shapeOf is an Op's, and whether there is one; if there is none, nothing stands behind it.
func shapeOf(op int) (shape, bool) {
	if op < 0 || op >= len(shapes) {
		return shape{}, false
	}
	return shapes[op], true
}

// opOf is the Op of a word, and whether there is one.
func opOf(word string) (int, bool) {
	for op := range shapes {
		if shapes[op].word == word {
			return op, true
		}
	}
	return 0, false
}

// first is the shape of the line that is ahead of the instructions: how many registers and arrays there are, and how many of these are handed in.
func first() shape {
	return shape{"code", [4]int{count, count, count}}
}

// parts are an instruction's, as its shape tells of them.
func parts(x api.Ins) [4]int64 {
	return [4]int64{int64(x.A), int64(x.B), int64(x.C), x.N}
}

// whole is the instruction of an Op and parts.
func whole(op int, p [4]int64) api.Ins {
	return api.Ins{Op: op, A: int(p[0]), B: int(p[1]), C: int(p[2]), N: p[3]}
}

// named are an instruction's parts of a kind, in the order of its text.
func named(x api.Ins, kind int) []int {
	s, _ := shapeOf(x.Op)
	var l []int
	for k, n := range parts(x) {
		if s.behind[k] == kind {
			l = append(l, int(n))
		}
	}
	return l
}
