package notation_test

import (
	"slices"
	"strconv"
	"strings"
	"testing"

	"purfle/api"
	"purfle/lexer"
	"purfle/notation"
)

func wantWrite(t *testing.T, n api.Node, want string, f api.Errno) {
	t.Helper()
	if s, e := notation.Write(n); s != want || e != f {
		t.Errorf("Write of %s: got %q, error %d; want %q, error %d", some(n), s, e, want, f)
	}
}

func wantRead(t *testing.T, s string, want api.Node, f api.Errno) {
	t.Helper()
	if n, e := notation.Read(s); !same(n, want) || e != f {
		t.Errorf("Read of %q: got %s, error %d; want %s, error %d", s[:min(len(s), 200)], some(n), e, some(want), f)
	}
}

func wantText(t *testing.T, p api.Prog, want string, f api.Errno) {
	t.Helper()
	if s, e := notation.Text(p); s != want || e != f {
		t.Errorf("Text: got %q, error %d; want %q, error %d", s[:min(len(s), 200)], e, want[:min(len(want), 200)], f)
	}
}

func wantParse(t *testing.T, s string, want api.Prog, at int, f api.Errno) {
	t.Helper()
	if p, n, e := notation.Parse(s); !equal(p, want) || n != at || e != f {
		t.Errorf("Parse of %q: got %q, %d, error %d; want %q, %d, error %d", s[:min(len(s), 300)], start(p), n, e, start(want), at, f)
	}
}

// start is what a program's text begins with.
func start(p api.Prog) string {
	s := progText(p)
	return s[:min(len(s), 300)]
}

// texts calls f with all texts of so many of the tokens told, a blank between two.
func texts(tokens string, many int, f func(s string)) {
	from := strings.Split(tokens, " ")
	l := make([]string, many)
	var further func(k int)
	further = func(k int) {
		if k == many {
			f(strings.Join(l, " "))
			return
		}
		for _, s := range from {
			l[k] = s
			further(k + 1)
		}
	}
	further(0)
}

// P9.2

func TestWrite(t *testing.T) {
	wantWrite(t, num(0), "0", api.OK)
	wantWrite(t, num(maxNumber), "999999999999999999", api.OK)
	wantWrite(t, ref("a"), "a [ ]", api.OK)
	wantWrite(t, ref("a", "i"), "a [ i ]", api.OK)
	wantWrite(t, ref("a", "i", "j", "k", "l"), "a [ i , j , k , l ]", api.OK)
	wantWrite(t, add(num(1), num(2)), "( 1 + 2 )", api.OK)
	wantWrite(t, sub(num(1), num(2)), "( 1 - 2 )", api.OK)
	wantWrite(t, mul(num(1), num(2)), "( 1 * 2 )", api.OK)
	wantWrite(t, neg(num(1)), "- 1", api.OK)
	wantWrite(t, neg(neg(add(num(1), neg(num(2))))), "- - ( 1 + - 2 )", api.OK)
	wantWrite(t, sum("i", ref("a", "i")), "sum ( i , a [ i ] )", api.OK)
	wantWrite(t, sum("i", sub(sum("j", num(1)), num(2))), "sum ( i , ( sum ( j , 1 ) - 2 ) )", api.OK)
	wantWrite(t, sub(mul(num(2), ref("b", "i", "k")), ref("c")), "( ( 2 * b [ i , k ] ) - c [ ] )", api.OK)
	for _, n := range expressions(2000) {
		wantWrite(t, n, text(n), api.OK)
	}
}

func TestWriteErrors(t *testing.T) {
	for _, n := range badNodes() {
		wantWrite(t, n, "", api.ErrArg)
		wantWrite(t, neg(n), "", api.ErrArg)
		wantWrite(t, add(num(1), n), "", api.ErrArg)
	}
}

func TestRead(t *testing.T) {
	a, b, c := ref("a", "i"), ref("b", "i", "k"), ref("c")
	wantRead(t, "2 * b[i, k] - c[]", sub(mul(num(2), b), c), api.OK)
	wantRead(t, "1", num(1), api.OK)
	wantRead(t, "0", num(0), api.OK)
	wantRead(t, "999999999999999999", num(maxNumber), api.OK)
	wantRead(t, "a[i]", a, api.OK)
	wantRead(t, "c[]", c, api.OK)
	wantRead(t, "a[i,j,k,l]", ref("a", "i", "j", "k", "l"), api.OK)
	wantRead(t, "abcdefghijklmnop[Z9]", ref("abcdefghijklmnop", "Z9"), api.OK)
	// From the left on.
	wantRead(t, "1 + 2 + 3", add(add(num(1), num(2)), num(3)), api.OK)
	wantRead(t, "1 - 2 - 3", sub(sub(num(1), num(2)), num(3)), api.OK)
	wantRead(t, "1 - 2 + 3", add(sub(num(1), num(2)), num(3)), api.OK)
	wantRead(t, "1 * 2 * 3", mul(mul(num(1), num(2)), num(3)), api.OK)
	wantRead(t, "1 - (2 - 3)", sub(num(1), sub(num(2), num(3))), api.OK)
	wantRead(t, "1 * (2 * 3)", mul(num(1), mul(num(2), num(3))), api.OK)
	// What is closer.
	wantRead(t, "1 + 2 * 3", add(num(1), mul(num(2), num(3))), api.OK)
	wantRead(t, "1 * 2 + 3", add(mul(num(1), num(2)), num(3)), api.OK)
	wantRead(t, "1 * 2 - 3 * 4 + 5", add(sub(mul(num(1), num(2)), mul(num(3), num(4))), num(5)), api.OK)
	wantRead(t, "(1 + 2) * 3", mul(add(num(1), num(2)), num(3)), api.OK)
	wantRead(t, "-1 * 2", mul(neg(num(1)), num(2)), api.OK)
	wantRead(t, "-(1 * 2)", neg(mul(num(1), num(2))), api.OK)
	wantRead(t, "1 * -2", mul(num(1), neg(num(2))), api.OK)
	wantRead(t, "-1 - 2", sub(neg(num(1)), num(2)), api.OK)
	wantRead(t, "1 - -2", sub(num(1), neg(num(2))), api.OK)
	wantRead(t, "1--2", sub(num(1), neg(num(2))), api.OK)
	wantRead(t, "1---2", sub(num(1), neg(neg(num(2)))), api.OK)
	wantRead(t, "--1", neg(neg(num(1))), api.OK)
	wantRead(t, "-(-(1))", neg(neg(num(1))), api.OK)
	wantRead(t, "(((((a[i])))))", a, api.OK)
	// Sums.
	wantRead(t, "sum(i, a[i])", sum("i", a), api.OK)
	wantRead(t, "sum(i, 1 + 2)", sum("i", add(num(1), num(2))), api.OK)
	wantRead(t, "sum(i, 1) + 2", add(sum("i", num(1)), num(2)), api.OK)
	wantRead(t, "-sum(i, sum(j, 1)) * 2", mul(neg(sum("i", sum("j", num(1)))), num(2)), api.OK)
	wantRead(t, "sum(sums, (1))", sum("sums", num(1)), api.OK)
	wantRead(t, "Sum[SUM]", ref("Sum", "SUM"), api.OK)
	// What is passed over changes nothing.
	wantRead(t, "\n\n # all\n\t1+ 2# of it\n\n", add(num(1), num(2)), api.OK)
}

func TestReadErrors(t *testing.T) {
	for _, s := range []string{
		"", " ", "\n", "# no", "a", "a [", "a ]", "a [ i", "a [ i ,", "a [ i , ]", "a [ , i ]", "a [ , ]", "a [ i j ]", "a [ i , , j ]", "a [ 1 ]", "a [ i ] ]", "a i", "a ( i )", "[ i ]", "a [ [ i ] ]",
		"a [ sum ]", "a [ i , tensor ]", "sum [ i ]", "tensor [ i ]", "tensor", "sum", "a [ b [ i ] ]", "a [ i + j ]", "a [ - i ]", "a [ ( i ) ]",
		"+", "-", "*", "+ 1", "* 1", "1 +", "1 -", "1 *", "1 + + 2", "1 * * 2", "1 + * 2", "1 - * 2", "1 * + 2", "- + 1", "- * 1", "1 2", "1 a [ ]", "a [ ] 1", "a [ ] b [ ]", "( 1 ) ( 2 )", "2 ( 1 )",
		"(", ")", "( )", "( 1", "1 )", "( ( 1 )", "( 1 ) )", ") 1 (", "( 1 + )", "( + 1 )", "- ( )",
		"sum ( i , )", "sum ( , 1 )", "sum ( i 1 )", "sum ( i , 1", "sum i , 1 )", "sum i , 1", "sum ( 2 , 3 )", "sum ( 1 )", "sum ( i )", "sum ( )", "sum ( i , j , 1 )", "sum ( a [ i ] )", "sum ( a [ i ] , 1 )",
		"sum ( sum , 1 )", "sum ( tensor , 1 )", "sum ( i , 1 ) )", "sum ( ( i , 1 )", "sum ( i , 1 , 2 )", "sum ( i , sum )", "sum ( ( i ) , 1 )", "sum [ i , 1 ]",
		"1 = 1", "a [ ] = 1", "1 , 2", "1 : 2", "=", ",", ":", "1\n+ 2", "1 +\n2", "a\n[ ]", "1\n2", "tensor a [ 2 ] : csr", "a [ i ]\nb [ i ]", "( 1\n)",
	} {
		wantRead(t, s, api.Node{}, api.ErrText)
	}
	// Those of its tokens.
	for _, s := range []string{"?", "1 + ?", "01", "1 + 2a", "a[i] + b_c[i]", "1000000000000000000", "abcdefghijklmnopq[]", "1 +\r\n2", strings.Repeat("1 + ", 5000) + "01"} {
		wantRead(t, s, api.Node{}, api.ErrText)
	}
	for _, s := range []string{strings.Repeat(" ", 65537), "1" + strings.Repeat(" ", 65536), strings.Repeat("1+", 2048) + "1", "?" + strings.Repeat("x", 65536), strings.Repeat("(", 4097)} {
		wantRead(t, s, api.Node{}, api.ErrLarge)
	}
	wantRead(t, "1"+strings.Repeat(" ", 65535), num(1), api.OK)
}

func TestReadBeyondBounds(t *testing.T) {
	for _, n := range large() {
		wantRead(t, text(n), api.Node{}, api.ErrLarge)
		// What is no expression is told first, however much there is of it.
		wantRead(t, text(n)+" )", api.Node{}, api.ErrText)
		wantRead(t, "1 + "+text(n)+" +", api.Node{}, api.ErrText)
		wantRead(t, "( "+text(n)+" ) 1", api.Node{}, api.ErrText)
	}
	for many := 1; many < 40; many++ {
		for _, sign := range []string{" + ", " - ", " * "} {
			s := "1" + strings.Repeat(sign+"1", many-1)
			want, e := read(s)
			if wantE := many > 16; wantE != (e == api.ErrLarge) {
				t.Fatalf("a chain of %d: error %d", many, e)
			}
			wantRead(t, s, want, e)
		}
		// What stands in brackets is no deeper for them.
		wantRead(t, strings.Repeat("(", many)+"1"+strings.Repeat(")", many), num(1), api.OK)
	}
	wantRead(t, strings.Repeat("(", 2047)+"a"+strings.Repeat(")", 2047), api.Node{}, api.ErrText)
	wantRead(t, strings.Repeat("(", 2046)+"a[]"+strings.Repeat(")", 2046), ref("a"), api.OK)
	wantRead(t, strings.Repeat("(", 4096), api.Node{}, api.ErrText)
	wantRead(t, strings.Repeat("-", 4096), api.Node{}, api.ErrText)
	wantRead(t, strings.Repeat("-", 4095)+"1", api.Node{}, api.ErrLarge)
	wantRead(t, strings.Repeat("sum ", 4096), api.Node{}, api.ErrText)
	wantRead(t, strings.Repeat("sum(i,", 1000)+"1", api.Node{}, api.ErrText)
	wantRead(t, strings.Repeat("sum(i,", 800)+"1"+strings.Repeat(")", 799), api.Node{}, api.ErrText)
	wantRead(t, strings.Repeat("sum(i,", 800)+"1"+strings.Repeat(")", 801), api.Node{}, api.ErrText)
	wantRead(t, strings.Repeat("sum(i,", 800)+"1"+strings.Repeat(")", 800), api.Node{}, api.ErrLarge)
	wantRead(t, "a["+strings.Repeat("i,", 2000)+"i]", api.Node{}, api.ErrLarge)
	wantRead(t, "a["+strings.Repeat("i,", 2000)+"]", api.Node{}, api.ErrText)
}

func TestReadOfAllShortTexts(t *testing.T) {
	for _, x := range []struct {
		tokens string
		most   int
	}{
		{"1 + - * ( )", 6}, {"a [ ] , -", 7}, {"sum ( a , 1 )", 6}, {"a [ ] i * sum", 6}, {"sum tensor a 1 [ ] ( ) , = : + - * \n", 4},
	} {
		for many := range x.most + 1 {
			texts(x.tokens, many, func(s string) {
				want, e := read(s)
				wantRead(t, s, want, e)
			})
		}
	}
}

// mutant is a text of which a few tokens are left out, put in, or changed.
func mutant(s string, next func(below int) int) string {
	from := strings.Split("sum tensor a i 1 [ ] ( ) , = : + - * 0 csr", " ")
	l := strings.Split(s, " ")
	for range 1 + next(2) {
		at := next(len(l))
		switch next(4) {
		case 0:
			l = slices.Delete(l, at, at+1)
		case 1:
			l = slices.Insert(l, at, from[next(len(from))])
		case 2:
			l[at] = from[next(len(from))]
		default:
			to := next(len(l))
			l[at], l[to] = l[to], l[at]
		}
		if len(l) == 0 {
			return ""
		}
	}
	return strings.Join(l, " ")
}

func TestReadOfMutants(t *testing.T) {
	for salt := range 10000 {
		next := counted(salt)
		s := mutant(text(anyNode(next, 1+next(12), 8)), next)
		want, e := read(s)
		wantRead(t, s, want, e)
	}
}

// P9.3

func TestText(t *testing.T) {
	wantText(t, api.Prog{}, "", api.OK)
	wantText(t, plain(), "tensor a [ 2 , 3 ] : csr\nb [ i ] = a [ i , k ]", api.OK)
	wantText(t, api.Prog{S: plain().S}, "b [ i ] = a [ i , k ]", api.OK)
	wantText(t, api.Prog{D: plain().D}, "tensor a [ 2 , 3 ] : csr", api.OK)
	wantText(t, api.Prog{D: []api.Decl{{Name: "a", Form: "sum", Block: 1}, {Name: "b", Shape: []int{0, 1, maxNumber, 3}, Form: "tensor", Block: maxNumber}}, S: []api.Stmt{{Name: "a", E: neg(num(1))}, {Name: "a", Index: []string{"i", "j"}, E: sum("k", num(0))}}},
		"tensor a [ ] : sum 1\ntensor b [ 0 , 1 , 999999999999999999 , 3 ] : tensor 999999999999999999\na [ ] = - 1\na [ i , j ] = sum ( k , 0 )", api.OK)
	for salt := range 500 {
		p := anyProg(counted(salt), 20, 12)
		wantText(t, p, progText(p), api.OK)
	}
}

// wide is a program whose text has so many tokens, at least 5.
func wide(tokens int) api.Prog {
	var p api.Prog
	state := func(n api.Node) { p.S = append(p.S, api.Stmt{Name: "a", E: n}) }
	left := tokens + 1
	// Of 60 tensors 777 tokens, of 60 numbers 237; beside them a, [, ], = and the end of the line.
	for ; left >= 782+6; left -= 782 {
		state(tree(60, ref("a", "i", "j", "k", "l")))
	}
	for ; left >= 242+6; left -= 242 {
		state(tree(60, num(1)))
	}
	// Of numbers 4 tokens each, less 3.
	left -= 5
	n := tree((left+3)/4, num(1))
	for range (left + 3) % 4 {
		n = neg(n)
	}
	state(n)
	return p
}

func TestTextOfManyTokens(t *testing.T) {
	for _, tokens := range []int{5, 6, 7, 8, 9, 786, 787, 788, 4090, 4093, 4094, 4095, 4096} {
		p := wide(tokens)
		s := progText(p)
		if l, _, e := lexer.Cut(s); len(l) != tokens || e != api.OK {
			t.Fatalf("made badly: %d tokens, not %d, error %d", len(l), tokens, e)
		}
		wantText(t, p, s, api.OK)
		wantParse(t, s, p, len(p.S), api.OK)
	}
	for _, tokens := range []int{4097, 4098, 4099, 4100, 5000, 20000} {
		p := wide(tokens)
		wantText(t, p, "", api.ErrLarge)
		wantParse(t, progText(p), api.Prog{}, 0, api.ErrLarge)
		// What may not be is told first.
		p.S[0].Name = "sum"
		wantText(t, p, "", api.ErrArg)
	}
	wantText(t, api.Prog{S: slices.Repeat(wide(778).S[:1], 32)}, "", api.ErrLarge)
	wantText(t, api.Prog{S: slices.Repeat(wide(778).S[:1], 33)}, "", api.ErrArg)
}

func TestParse(t *testing.T) {
	wantParse(t, "", api.Prog{}, 0, api.OK)
	wantParse(t, " \n# no\n", api.Prog{}, 0, api.OK)
	wantParse(t, "tensor a[2, 3]: csr\nb[i] = a[i, k]", plain(), 2, api.OK)
	wantParse(t, "\n\n# of all\ntensor a[2, 3]: csr # there\n\n\tb[i]=a[i,k]\n#\n", plain(), 2, api.OK)
	wantParse(t, "tensor a[]: sum", api.Prog{D: []api.Decl{{Name: "a", Form: "sum"}}}, 1, api.OK)
	wantParse(t, "tensor a[0]: tensor 0", api.Prog{D: []api.Decl{{Name: "a", Form: "tensor", Shape: []int{0}}}}, 1, api.OK)
	wantParse(t, "tensor a[1,2,3,999999999999999999]: b 999999999999999999", api.Prog{D: []api.Decl{{Name: "a", Form: "b", Shape: []int{1, 2, 3, maxNumber}, Block: maxNumber}}}, 1, api.OK)
	wantParse(t, "a[] = 1\na[] = a[] + 1", api.Prog{S: []api.Stmt{{Name: "a", E: num(1)}, {Name: "a", E: add(ref("a"), num(1))}}}, 2, api.OK)
	wantParse(t, "a[i,i,i,i] = - - 2", api.Prog{S: []api.Stmt{{Name: "a", Index: []string{"i", "i", "i", "i"}, E: neg(neg(num(2)))}}}, 1, api.OK)
	d, s := plain().D, plain().S
	wantParse(t, strings.Repeat(declText(d[0])+"\n", 32)+strings.Repeat(stmtText(s[0])+"\n", 32), api.Prog{D: slices.Repeat(d, 32), S: slices.Repeat(s, 32)}, 64, api.OK)
}

func TestParseErrorsOfTokens(t *testing.T) {
	for _, x := range []struct {
		s  string
		at int
		e  api.Errno
	}{
		{"?", 0, api.ErrText}, {"a[i] = ?", 7, api.ErrText}, {"a[] = 1\nb[] = 01", 14, api.ErrText}, {"a = 1\n\n ?", 8, api.ErrText}, {"a[] = 1\r\n", 7, api.ErrText},
		// These are told ahead of a line that is none.
		{"tensor tensor\na[] = 2x", 20, api.ErrText}, {strings.Repeat("tensor a[]: b\n", 33) + "?", 462, api.ErrText},
		{strings.Repeat(" ", 65537), 0, api.ErrLarge}, {strings.Repeat("+", 4097), 0, api.ErrLarge}, {strings.Repeat("+", 4097) + "?", 4097, api.ErrText}, {"a[] = 1" + strings.Repeat("\n", 65536), 0, api.ErrLarge},
	} {
		wantParse(t, x.s, api.Prog{}, x.at, x.e)
	}
}

func TestParseErrorsOfLines(t *testing.T) {
	bad := []string{
		"tensor", "tensor a", "tensor a [", "tensor a [ ]", "tensor a [ ] :", "tensor a : csr", "tensor a [ ] csr", "tensor a [ 2 : csr", "tensor a 2 ] : csr", "tensor [ 2 ] : csr", "tensor a [ 2 ] : csr 1 2",
		"tensor a [ 2 ] : csr csr", "tensor a [ 2 ] : 2", "tensor a [ 2 ] : 2 csr", "tensor a [ 2 ] : + csr", "tensor a [ 2 , ] : csr", "tensor a [ , 2 ] : csr", "tensor a [ , ] : csr", "tensor a [ 2 3 ] : csr",
		"tensor a [ i ] : csr", "tensor a [ - 2 ] : csr", "tensor a [ 2 ] : csr - 2", "tensor a [ 2 ] : csr +", "tensor a [ 2 ] = csr", "tensor a ( 2 ) : csr", "tensor sum [ 2 ] : csr", "tensor tensor [ 2 ] : csr",
		"tensor 2 [ 2 ] : csr", "tensor a b [ 2 ] : csr", "tensor a [ 2 ] : : csr", "a [ 2 ] : csr", "tensor a [ ] : csr = 1", "tensor a [ ] = 1", "tensor = 1", "tensor [ ] = 1", "Tensor a [ ] : csr", "sum a [ ] : csr",
		"a", "a [ ]", "a [ ] =", "a = 1", "= 1", "a [ i = 1", "a i ] = 1", "a [ i , ] = 1", "a [ , i ] = 1", "a [ , ] = 1", "a [ i j ] = 1", "a [ 2 ] = 1", "a [ sum ] = 1", "a [ tensor ] = 1", "sum [ ] = 1", "2 [ ] = 1",
		"a [ ] : 1", "a [ ] 1", "a [ ] = = 1", "a [ ] = 1 = 2", "a [ ] = 1 2", "a [ ] = a", "a [ ] = ( 1", "a [ ] = 1 )", "a [ ] = 1 +", "a [ ] = sum ( 2 , 3 )", "a [ ] = tensor", "a [ ] = b [ ] = 1", "a b [ ] = 1",
		"1", "1 + 2", "+", "[ ]", ":", "a [ i + j ] = 1", "- a [ ] = 1", "( a [ ] ) = 1", "a ( ) = 1", "a [ ] = 1 , 2", "a [ ] , b [ ] = 1", "a [ ] = sum ( sum , 1 )",
	}
	for _, s := range bad {
		wantParse(t, s, api.Prog{}, 0, api.ErrText)
		wantParse(t, "a[] = 1\n\n"+s, api.Prog{}, 1, api.ErrText)
		wantParse(t, "tensor a[]: b\na[] = 1\n"+s+"\na[] = 1\n"+s, api.Prog{}, 2, api.ErrText)
		// Ahead of what is too much in it, or behind it.
		wantParse(t, strings.Repeat("tensor a[]: b\n", 32)+s+"\ntensor a[]: b", api.Prog{}, 32, api.ErrText)
		wantParse(t, strings.Repeat("a[] = 1\n", 32)+s+"\na[] = 1", api.Prog{}, 32, api.ErrText)
		wantParse(t, s+"\na[i,j,k,l,m] = 1", api.Prog{}, 0, api.ErrText)
		// Behind what is too much ahead of it.
		wantParse(t, "a[i,j,k,l,m] = 1\n"+s, api.Prog{}, 0, api.ErrLarge)
	}
}

func TestParseOfATensorBehindAStatement(t *testing.T) {
	wantParse(t, "a[] = 1\ntensor b[]: csr", api.Prog{}, 1, api.ErrText)
	wantParse(t, "tensor a[]: csr\na[] = 1\na[] = 2\ntensor b[]: csr\na = 1", api.Prog{}, 3, api.ErrText)
	// Ahead of what is too much in it.
	wantParse(t, "a[] = 1\ntensor b[1,2,3,4,5]: csr", api.Prog{}, 1, api.ErrText)
	wantParse(t, strings.Repeat("tensor a[]: csr\n", 32)+"a[] = 1\ntensor b[]: csr", api.Prog{}, 33, api.ErrText)
}

func TestParseBeyondBounds(t *testing.T) {
	wantParse(t, "tensor a[1,1,1,1,1]: csr", api.Prog{}, 0, api.ErrLarge)
	wantParse(t, "tensor a["+strings.Repeat("1,", 1000)+"1]: csr", api.Prog{}, 0, api.ErrLarge)
	wantParse(t, "a[i,j,k,l,m] = 1", api.Prog{}, 0, api.ErrLarge)
	wantParse(t, "a[i,j,k,l,m] = 1 +", api.Prog{}, 0, api.ErrText)
	wantParse(t, "tensor a[1,1,1,1,1]: 1", api.Prog{}, 0, api.ErrText)
	for _, n := range large() {
		wantParse(t, "a[] = "+text(n), api.Prog{}, 0, api.ErrLarge)
		wantParse(t, "tensor a[]: csr\na[] = 1\n\na[] = "+text(n)+"\na = 1", api.Prog{}, 2, api.ErrLarge)
		wantParse(t, "a[] = 1\na[] = "+text(n)+" )", api.Prog{}, 1, api.ErrText)
	}
	wantParse(t, strings.Repeat("tensor a[]: csr\n", 33), api.Prog{}, 32, api.ErrLarge)
	wantParse(t, strings.Repeat("tensor a[]: csr\n", 100)+"a = 1", api.Prog{}, 32, api.ErrLarge)
	wantParse(t, strings.Repeat("a[] = 1\n", 33), api.Prog{}, 32, api.ErrLarge)
	wantParse(t, "tensor a[]: csr\n"+strings.Repeat("a[] = 1\n", 40), api.Prog{}, 33, api.ErrLarge)
	wantParse(t, strings.Repeat("tensor a[]: csr\n", 32)+strings.Repeat("a[] = 1\n", 33), api.Prog{}, 64, api.ErrLarge)
}

func TestParseOfAllShortLines(t *testing.T) {
	for _, x := range []struct {
		ahead, tokens string
		most          int
	}{
		{"", "a [ ] = 1 ,", 6}, {"tensor a [ ", "1 , ] : b", 6}, {"tensor a [ ] ", ": b 1 tensor sum", 5}, {"a [ ] = ", "1 = b - \n", 5},
		{"", "sum tensor a 1 [ ] ( ) , = : + - * \n", 4},
	} {
		for many := range x.most + 1 {
			texts(x.tokens, many, func(s string) {
				want, at, e := parse(x.ahead + s)
				wantParse(t, x.ahead+s, want, at, e)
			})
		}
	}
}

func TestParseOfMutants(t *testing.T) {
	for salt := range 3000 {
		next := counted(salt)
		p := anyProg(next, 4, 8)
		lines := strings.Split(progText(p), "\n")
		at := next(len(lines))
		lines[at] = mutant(lines[at], next)
		if next(4) == 0 {
			to := next(len(lines))
			lines[at], lines[to] = lines[to], lines[at]
		}
		s := strings.Join(lines, "\n")
		want, n, e := parse(s)
		wantParse(t, s, want, n, e)
	}
}

// P9.4

func TestWhatWasWrittenIsReadAsWhatItWas(t *testing.T) {
	for _, n := range expressions(2000) {
		s, e := notation.Write(n)
		if m, f := notation.Read(s); e != api.OK || f != api.OK || !same(m, n) || !notation.Same(m, n) {
			t.Errorf("Write and Read of %s: got %s, errors %d, %d", some(n), some(m), e, f)
		}
	}
	for salt := range 1000 {
		p := anyProg(counted(salt), 32, 12)
		s, e := notation.Text(p)
		if e == api.ErrLarge {
			continue
		}
		if q, n, f := notation.Parse(s); e != api.OK || f != api.OK || n != len(p.D)+len(p.S) || !equal(q, p) || !notation.Equal(q, p) {
			t.Errorf("Text and Parse of %s: got %v, %d, errors %d, %d", strconv.Quote(s), q, n, e, f)
		}
	}
}

// manyNodes calls f with all expressions of a kind or two below one another.
func manyNodes(deep int, f func(n api.Node)) {
	f(num(3))
	f(ref("a", "i", "j"))
	if deep == 1 {
		return
	}
	manyNodes(deep-1, func(n api.Node) {
		f(neg(n))
		f(sum("i", n))
		manyNodes(deep-1, func(m api.Node) {
			f(add(n, m))
			f(sub(n, m))
			f(mul(n, m))
		})
	})
}

func TestWhatWasWrittenIsReadAsWhatItWasOfAllSmallOnes(t *testing.T) {
	manyNodes(3, func(n api.Node) {
		wantWrite(t, n, text(n), api.OK)
		wantRead(t, text(n), n, api.OK)
		p := api.Prog{S: []api.Stmt{{Name: "a", E: n}}}
		wantText(t, p, "a [ ] = "+text(n), api.OK)
		wantParse(t, "a[] = "+text(n), p, 1, api.OK)
	})
}

// R2

// deepNode and deepProg are copies that share nothing.
func deepNode(n api.Node) api.Node {
	n.Index = slices.Clone(n.Index)
	n.L = slices.Clone(n.L)
	for k, x := range n.L {
		n.L[k] = deepNode(x)
	}
	return n
}

func deepProg(p api.Prog) api.Prog {
	q := api.Prog{D: slices.Clone(p.D), S: slices.Clone(p.S)}
	for k := range q.D {
		q.D[k].Shape = slices.Clone(q.D[k].Shape)
	}
	for k, s := range q.S {
		q.S[k].Index, q.S[k].E = slices.Clone(s.Index), deepNode(s.E)
	}
	return q
}

// overwrite writes into all lists of an expression, also behind their ends: into each what no other one has.
func overwrite(n *api.Node, count *int) {
	own := n.Index[:cap(n.Index)]
	for k := range own {
		*count++
		own[k] = strconv.Itoa(*count)
	}
	*count++
	n.N = int64(*count)
	for k := range n.L[:cap(n.L)] {
		overwrite(&n.L[:cap(n.L)][k], count)
	}
}

// overwritten tells whether an expression has what overwrite wrote into it.
func overwritten(n api.Node, count *int) bool {
	for _, s := range n.Index[:cap(n.Index)] {
		if *count++; s != strconv.Itoa(*count) {
			return false
		}
	}
	*count++
	if n.N != int64(*count) {
		return false
	}
	for _, x := range n.L[:cap(n.L)] {
		if !overwritten(x, count) {
			return false
		}
	}
	return true
}

func TestNothingHandedInIsChangedOrShared(t *testing.T) {
	for salt := range 300 {
		p := anyProg(counted(salt), 5, 12)
		was := deepProg(p)
		unchanged := func(what string) {
			t.Helper()
			if !equal(p, was) {
				t.Fatalf("%s changed what it was handed: %v", what, p)
			}
		}
		notation.Text(p)
		unchanged("Text")
		notation.Check(p)
		unchanged("Check")
		notation.Equal(p, p)
		unchanged("Equal")
		for _, s := range p.S {
			notation.Write(s.E)
			notation.May(s.E)
			notation.Same(s.E, s.E)
			unchanged("Write, May, or Same")
			count := 0
			l := notation.Refs(s.E)
			for k := range l[:cap(l)] {
				overwrite(&l[:cap(l)][k], &count)
			}
			f := notation.Free(s.E)
			for k := range f[:cap(f)] {
				f[:cap(f)][k] = "other"
			}
			unchanged("who wrote to what Refs and Free answered")
		}
	}
}

func TestNothingIsKept(t *testing.T) {
	n := sum("i", add(ref("a", "i", "j"), neg(ref("b", "k"))))
	l, f := notation.Refs(n), notation.Free(n)
	count := 0
	overwrite(&n, &count)
	if !slices.EqualFunc(l, []api.Node{ref("a", "i", "j"), ref("b", "k")}, same) || !slices.Equal(f, []string{"j", "k"}) {
		t.Errorf("got %v and %v, once what was handed in is written to", l, f)
	}
	// Nor does what was told before count, written to as it may be.
	const s = "tensor a[2, 3]: csr\nb[i] = a[i, k]"
	p, _, _ := notation.Parse(s)
	p.D[0].Shape[0], p.S[0].Index[0], p.S[0].E.Index[0] = 7, "other", "other"
	wantParse(t, s, plain(), 2, api.OK)
}

// wantOwn wants that each list of some expressions is its own.
func wantOwn(t *testing.T, what string, l []api.Node) {
	t.Helper()
	all, count, again := api.Node{L: l}, 0, 0
	overwrite(&all, &count)
	if !overwritten(all, &again) {
		t.Errorf("a list of %s is written to by another list", what)
	}
}

func TestNoTwoListsOfAnAnswerAreShared(t *testing.T) {
	for salt := range 300 {
		p, _, _ := notation.Parse(progText(anyProg(counted(salt), 6, 12)))
		var all api.Node
		for _, s := range p.S {
			all.L = append(all.L, api.Node{Index: s.Index, L: []api.Node{s.E}})
		}
		wantOwn(t, "a statement", slices.Clip(all.L))
		for n := range p.D {
			x := p.D[n].Shape
			for k := range x[:cap(x)] {
				x[:cap(x)][k] = n
			}
		}
		for n, d := range p.D {
			if slices.ContainsFunc(d.Shape[:cap(d.Shape)], func(x int) bool { return x != n }) {
				t.Errorf("tensor %d of %d is written to by another one", n, salt)
			}
		}
	}
	for salt := range 300 {
		wantOwn(t, "a tensor", slices.Clip(notation.Refs(anyNode(counted(salt), 60, 16))))
	}
}
