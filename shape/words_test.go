package shape_test

import (
	"math/big"
	"slices"

	"purfle/api"
	"purfle/notation"
)

// What the chapter's words say, told another way than the program does: forms are written out, sizes are looked for among all places that are ahead, sums are put around from the outermost one on.

func num(n int64) api.Node { return api.Node{Op: api.NumN, N: n} }

func ref(name string, index ...string) api.Node {
	return api.Node{Op: api.RefN, Name: name, Index: index}
}

func add(a, b api.Node) api.Node { return api.Node{Op: api.AddN, L: []api.Node{a, b}} }
func sub(a, b api.Node) api.Node { return api.Node{Op: api.SubN, L: []api.Node{a, b}} }
func mul(a, b api.Node) api.Node { return api.Node{Op: api.MulN, L: []api.Node{a, b}} }
func neg(a api.Node) api.Node    { return api.Node{Op: api.NegN, L: []api.Node{a}} }
func sum(index string, a api.Node) api.Node {
	return api.Node{Op: api.SumN, Name: index, L: []api.Node{a}}
}

func stmt(name string, index []string, n api.Node) api.Stmt {
	return api.Stmt{Name: name, Index: index, E: n}
}

// counted tells numbers from 0 on that look like no order, below a bound.
func counted(salt int) func(below int) int {
	s := uint64(salt)*2862933555777941757 + 3037000493
	return func(below int) int {
		s = s*6364136223846793005 + 1442695040888963407
		return int(s>>33) % below
	}
}

// formOf is what is told of a tensor's form.
func formOf(d api.Decl) ([]api.Spec, api.Errno) {
	rank := len(d.Shape)
	if rank > 4 {
		return nil, api.ErrArg
	}
	f, is := written(d.Form, rank, d.Block)
	switch {
	case !is:
		return nil, api.ErrNone
	case d.Form == "bsr" && d.Block < 1 || slices.ContainsFunc(d.Shape, func(n int) bool { return n < 0 }):
		return nil, api.ErrArg
	}
	cells := big.NewInt(1)
	for _, n := range d.Shape {
		cells.Mul(cells, big.NewInt(int64(n)))
	}
	if cells.BitLen() > 62 {
		return nil, api.ErrLarge
	}
	large := false
	for _, n := range d.Shape {
		if d.Form != "bsr" {
			large = large || n > 1<<31
			continue
		}
		if n%d.Block != 0 {
			return nil, api.ErrShape
		}
		large = large || n/d.Block > 1<<31 || d.Block > 1<<31
	}
	if large {
		return nil, api.ErrLarge
	}
	return f, api.OK
}

// written is the form of a name, and whether there is one of that rank.
func written(name string, rank, block int) ([]api.Spec, bool) {
	dense := []api.Spec{{Kind: api.DenseL}, {Kind: api.DenseL, Mode: 1}, {Kind: api.DenseL, Mode: 2}, {Kind: api.DenseL, Mode: 3}}
	packed := []api.Spec{{Kind: api.PackedL}, {Kind: api.PackedL, Mode: 1}, {Kind: api.PackedL, Mode: 2}, {Kind: api.PackedL, Mode: 3}}
	loose := []api.Spec{{Kind: api.LooseL}, {Kind: api.SingleL, Mode: 1}, {Kind: api.SingleL, Mode: 2}, {Kind: api.SingleL, Mode: 3}}
	switch name {
	case "dense":
		return dense[:rank], true
	case "csf":
		return packed[:rank], true
	case "coo":
		return loose[:rank], rank > 0
	case "csr":
		return []api.Spec{dense[0], packed[1]}, rank == 2
	case "csc":
		return []api.Spec{dense[1], packed[0]}, rank == 2
	case "dcsr":
		return []api.Spec{packed[0], packed[1]}, rank == 2
	case "dcsc":
		return []api.Spec{packed[1], packed[0]}, rank == 2
	case "bsr":
		return []api.Spec{dense[0], packed[1], {Kind: api.BlockL, Size: block}, {Kind: api.BlockL, Mode: 1, Size: block}}, rank == 2
	}
	return nil, false
}

// mayDecl and mayStmt tell whether these may be, in a program with them alone.
func mayDecl(d api.Decl) bool {
	return notation.Check(api.Prog{D: []api.Decl{d}}) == api.OK
}

func mayStmt(s api.Stmt) bool {
	return notation.Check(api.Prog{S: []api.Stmt{s}}) == api.OK
}

// declsOf is what is wrong with tensors that are told, and where.
func declsOf(d []api.Decl) (int, api.Errno) {
	for k, x := range d {
		_, e := formOf(x)
		for _, y := range d[:k] {
			if y.Name == x.Name {
				e = api.ErrName
			}
		}
		if !mayDecl(x) {
			e = api.ErrArg
		}
		if e != api.OK {
			return k, e
		}
	}
	return len(d), api.OK
}

// refs are an expression's RefN's.
func refs(n api.Node) []api.Node {
	if n.Op == api.RefN {
		return []api.Node{n}
	}
	var l []api.Node
	for _, x := range n.L {
		l = append(l, refs(x)...)
	}
	return l
}

// sums are an expression's SumN's.
func sums(n api.Node) []api.Node {
	var l []api.Node
	if n.Op == api.SumN {
		l = append(l, n)
	}
	for _, x := range n.L {
		l = append(l, sums(x)...)
	}
	return l
}

// free are an expression's indices, those of sums left out.
func free(n api.Node) []string {
	l := n.Index
	for _, x := range n.L {
		l = append(slices.Clip(l), free(x)...)
	}
	var each []string
	for _, i := range l {
		if !slices.Contains(each, i) && (n.Op != api.SumN || i != n.Name) {
			each = append(each, i)
		}
	}
	return each
}

// sizesOf are a statement's indices.
func sizesOf(s api.Stmt, d []api.Decl) ([]api.Dim, api.Errno) {
	if _, e := declsOf(d); !mayStmt(s) || e != api.OK {
		return nil, api.ErrArg
	}
	var all []api.Dim
	for k, r := range append([]api.Node{ref(s.Name, s.Index...)}, refs(s.E)...) {
		at := slices.IndexFunc(d, func(d api.Decl) bool { return d.Name == r.Name })
		switch {
		case at < 0:
			return nil, api.ErrName
		case len(d[at].Shape) != len(r.Index):
			return nil, api.ErrRank
		case k == 0 && len(free(r)) < len(r.Index):
			return nil, api.ErrName
		}
		for m, i := range r.Index {
			all = append(all, api.Dim{Name: i, Size: d[at].Shape[m]})
		}
		for _, x := range all {
			if first(all, x.Name).Size != x.Size {
				return nil, api.ErrShape
			}
		}
	}
	for _, n := range sums(s.E) {
		// It need not be free there: another sum over it may stand between.
		if !slices.ContainsFunc(refs(n), func(r api.Node) bool { return slices.Contains(r.Index, n.Name) }) {
			return nil, api.ErrNone
		}
	}
	var each []api.Dim
	for _, x := range all {
		if !slices.Contains(each, x) {
			each = append(each, x)
		}
	}
	return each, api.OK
}

// first is the first one of a name.
func first(l []api.Dim, name string) api.Dim {
	return l[slices.IndexFunc(l, func(x api.Dim) bool { return x.Name == name })]
}

// programOf is what is wrong with a program, and where.
func programOf(p api.Prog) (int, api.Errno) {
	if notation.Check(p) != api.OK {
		return 0, api.ErrArg
	}
	if n, e := declsOf(p.D); e != api.OK {
		return n, e
	}
	for k, s := range p.S {
		if _, e := sizesOf(s, p.D); e != api.OK {
			return len(p.D) + k, e
		}
	}
	return len(p.D) + len(p.S), api.OK
}

// normalOf is an expression that may be, with its sums.
func normalOf(n api.Node, target []string) api.Node {
	if n.Op == api.AddN || n.Op == api.SubN {
		return api.Node{Op: n.Op, L: []api.Node{normalOf(n.L[0], target), normalOf(n.L[1], target)}}
	}
	if n.Op == api.NegN {
		return neg(normalOf(n.L[0], target))
	}
	return around(slices.DeleteFunc(free(n), func(i string) bool { return slices.Contains(target, i) }), n)
}

// around is a part with sums around it, the outermost one first.
func around(over []string, n api.Node) api.Node {
	if len(over) == 0 {
		return n
	}
	return sum(over[0], around(over[1:], n))
}

// inputsOf and outputsOf are those of a program that goes together.
func inputsOf(p api.Prog) []string {
	var l []string
	for k, s := range p.S {
		for _, r := range refs(s.E) {
			made := slices.ContainsFunc(p.S[:k], func(s api.Stmt) bool { return s.Name == r.Name })
			if !made && !slices.Contains(l, r.Name) {
				l = append(l, r.Name)
			}
		}
	}
	return l
}

func outputsOf(p api.Prog) []string {
	var l []string
	for k, s := range p.S {
		if !slices.ContainsFunc(p.S[:k], func(x api.Stmt) bool { return x.Name == s.Name }) {
			l = append(l, s.Name)
		}
	}
	return l
}
