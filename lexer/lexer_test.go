package lexer_test

import (
	"math"
	"math/big"
	"regexp"
	"slices"
	"strconv"
	"strings"
	"testing"

	"purfle/api"
	"purfle/lexer"
)

func word(s string) api.Token { return api.Token{Kind: api.WordT, S: s} }

func number(s string) api.Token {
	n, err := strconv.ParseInt(s, 10, 64)
	if err != nil {
		panic(err)
	}
	return api.Token{Kind: api.NumberT, S: s, N: n}
}

func sign(s string) api.Token { return api.Token{Kind: api.SignT, S: s} }

func line() api.Token { return api.Token{Kind: api.LineT} }

// counted tells numbers from 0 on that look like no order, below a bound.
func counted(salt int) func(below int) int {
	s := uint64(salt)*2862933555777941757 + 3037000493
	return func(below int) int {
		s = s*6364136223846793005 + 1442695040888963407
		return int(s>>33) % below
	}
}

// texts calls f with all texts of so many bytes, each one of those told.
func texts(bytes string, many int, f func(s string)) {
	s := make([]byte, many)
	var further func(k int)
	further = func(k int) {
		if k == many {
			f(string(s))
			return
		}
		for n := range len(bytes) {
			s[k] = bytes[n]
			further(k + 1)
		}
	}
	further(0)
}

// What the chapter's words say, as patterns.
var (
	aWord   = regexp.MustCompile(`^[a-zA-Z][a-zA-Z0-9]{0,15}$`)
	aNumber = regexp.MustCompile(`^(0|[1-9][0-9]{0,17})$`)
	aSign   = regexp.MustCompile(`^[-+*()\[\],=:]$`)
	aNote   = regexp.MustCompile(`#[^\n]*`)
	aPiece  = regexp.MustCompile(`[a-zA-Z0-9]+|\n[ \t\n]*|[^ \t]`)
)

// mayBe tells by the chapter's words whether a token may be. (In the patterns $ is the end of all, not of a line.)
func mayBe(t api.Token) bool {
	switch t.Kind {
	case api.WordT:
		return aWord.MatchString(t.S) && t.N == 0
	case api.NumberT:
		return aNumber.MatchString(t.S) && t.N == number(t.S).N
	case api.SignT:
		return aSign.MatchString(t.S) && t.N == 0
	case api.LineT:
		return t.S == "" && t.N == 0
	}
	return false
}

// cut is what the chapter's words make of a text that is not too long.
func cut(s string) ([]api.Token, int, api.Errno) {
	// Blanks instead of what is passed over, so that all stands where it stood.
	plain := aNote.ReplaceAllStringFunc(s, func(note string) string { return strings.Repeat(" ", len(note)) })
	var l []api.Token
	ends := false
	for _, at := range aPiece.FindAllStringIndex(plain, -1) {
		piece := plain[at[0]:at[1]]
		if piece[0] == '\n' {
			ends = true
			continue
		}
		t := api.Token{}
		switch {
		case aWord.MatchString(piece):
			t = word(piece)
		case aNumber.MatchString(piece):
			t = number(piece)
		case aSign.MatchString(piece):
			t = sign(piece)
		default:
			return nil, at[0], api.ErrText
		}
		if ends && len(l) > 0 {
			l = append(l, line())
		}
		l, ends = append(l, t), false
	}
	if len(l) > api.MaxTokens {
		return nil, 0, api.ErrLarge
	}
	return l, len(s), api.OK
}

// long tells of a text only how it begins, if it is long.
func long(s string) string {
	if len(s) > 60 {
		return strconv.Quote(s[:60]) + " and so on"
	}
	return strconv.Quote(s)
}

// some are a list's first elements.
func some[T any](l []T) []T { return l[:min(len(l), 12)] }

func wantCut(t *testing.T, s string, want []api.Token, at int, e api.Errno) {
	t.Helper()
	if l, n, f := lexer.Cut(s); !slices.Equal(l, want) || n != at || f != e {
		t.Errorf("Cut of %s: got %d tokens %v, %d, error %d; want %d tokens %v, %d, error %d", long(s), len(l), some(l), n, f, len(want), some(want), at, e)
	}
}

// wantTokens wants that a text is cut into these.
func wantTokens(t *testing.T, s string, want ...api.Token) {
	t.Helper()
	wantCut(t, s, want, len(s), api.OK)
}

// goodWords and goodNumbers are such as may be, badTexts are neither words nor numbers, nor signs.
func goodWords() []string {
	return []string{
		"a", "z", "A", "Z", "m", "M", "ab", "aB", "Ba", "a0", "z9", "A5b6", "sum", "tensor", "e10", "O0", "abcdefghijklmno", "abcdefghijklmnop",
		"ABCDEFGHIJKLMNOP", "a123456789012345", "QRSTUVWXYZqrstuv", "w0123456789xyzXY",
	}
}

func goodNumbers() []string {
	return []string{
		"0", "1", "2", "3", "4", "5", "6", "7", "8", "9", "10", "19", "90", "100", "101", "1234567890", "4294967296", "9223372036854775", "99999999999999999",
		"100000000000000000", "123456789012345678", "987654321098765432", "999999999999999999",
	}
}

func badTexts() []string {
	return []string{
		"?", "_", ".", ";", "<", ">", "/", "%", "{", "}", "@", "`", "^", "\\", "!", "\"", "'", "&", "|", "~", "$", "#", " ", "\t", "\n", "\r", "\v", "\f", "\x00", "\x7f", "\x80", "\xff",
		"é", "ß", "Ä", "ж", "٣", "１", "Ａ", "\u00a0", "\u2028", "−", "==", "++", "--", "[]", "()", ":=", "+1", "-1", "- 1",
		"a_", "_a", "a.b", "a b", " a", "a ", "a\n", "\na", "a\tb", "a#", "a\x00", "aé", "éa", "a-b", "a+", "a\r",
		"1a", "0a", "2b", "9Z", "1_000", "1.5", "1e5x", "0x10", " 1", "1 ", "1\n", "\n1", "1#", "1\x00", "1٣", "1-", "1,000",
		"00", "01", "007", "000000000000000000", "012345678901234567",
		"1000000000000000000", "9223372036854775807", "9999999999999999999", "0000000000000000000", "1234567890123456789012345",
		"abcdefghijklmnopq", "a1234567890123456", strings.Repeat("a", 100), strings.Repeat("Z", 1<<16+1), strings.Repeat("1", 1<<16+1), strings.Repeat("0", 100),
	}
}

// P8.1

func TestWord(t *testing.T) {
	for _, s := range goodWords() {
		if !lexer.Word(s) {
			t.Errorf("Word of %s: no", long(s))
		}
	}
	for _, s := range slices.Concat(badTexts(), goodNumbers(), strings.Split("+-*()[],=:", ""), []string{""}) {
		if lexer.Word(s) {
			t.Errorf("Word of %s: yes", long(s))
		}
	}
	for n := range 40 {
		for _, s := range []string{strings.Repeat("k", n), strings.Repeat("K7", n)} {
			if want := len(s) >= 1 && len(s) <= 16; lexer.Word(s) != want {
				t.Errorf("Word of %s: not %v", long(s), want)
			}
		}
	}
}

func TestWordOfEachByte(t *testing.T) {
	for n := range 256 {
		b := string([]byte{byte(n)})
		for _, s := range []string{b, "a" + b, b + "a", "a" + b + "a", "abcdefghijklmno" + b} {
			if want := aWord.MatchString(s); lexer.Word(s) != want {
				t.Errorf("Word of %s: not %v", long(s), want)
			}
		}
	}
}

func TestNumber(t *testing.T) {
	for _, s := range goodNumbers() {
		if n, is := lexer.Number(s); n != number(s).N || !is {
			t.Errorf("Number of %s: got %d, %v", long(s), n, is)
		}
	}
	for _, s := range slices.Concat(badTexts(), goodWords(), strings.Split("+-*()[],=:", ""), []string{""}) {
		if n, is := lexer.Number(s); n != 0 || is {
			t.Errorf("Number of %s: got %d, %v", long(s), n, is)
		}
	}
	for n := range 40 {
		want := n >= 1 && n <= 18
		if _, is := lexer.Number(strings.Repeat("5", n)); is != want {
			t.Errorf("Number of %d digits: got %v", n, is)
		}
	}
	for n := range 20000 {
		if got, is := lexer.Number(strconv.Itoa(n)); got != int64(n) || !is {
			t.Errorf("Number of %d: got %d, %v", n, got, is)
		}
	}
}

func TestNumberOfEachByte(t *testing.T) {
	for n := range 256 {
		b := string([]byte{byte(n)})
		for _, s := range []string{b, "1" + b, b + "1", "1" + b + "1", "12345678901234567" + b} {
			want := int64(0)
			if aNumber.MatchString(s) {
				want = number(s).N
			}
			if got, is := lexer.Number(s); got != want || is != aNumber.MatchString(s) {
				t.Errorf("Number of %s: got %d, %v; want %d", long(s), got, is, want)
			}
		}
	}
}

func TestDigits(t *testing.T) {
	for n, want := range map[int64]string{
		0: "0", 1: "1", -1: "-1", 9: "9", 10: "10", -10: "-10", 907: "907", -907: "-907", 1000000: "1000000",
		999999999999999999: "999999999999999999", 1000000000000000000: "1000000000000000000",
		math.MaxInt64: "9223372036854775807", math.MinInt64: "-9223372036854775808", math.MinInt64 + 1: "-9223372036854775807",
		math.MaxInt32 + 1: "2147483648", math.MinInt32 - 1: "-2147483649", math.MaxUint32 + 1: "4294967296",
	} {
		if got := lexer.Digits(n); got != want {
			t.Errorf("Digits of %d: got %s", n, got)
		}
	}
	for k := range 64 {
		for _, n := range []int64{1 << k, -(1 << k), 1<<k - 1, 1<<k + 1} {
			if got, want := lexer.Digits(n), big.NewInt(n).String(); got != want {
				t.Errorf("Digits of %s: got %s", want, got)
			}
		}
	}
	for _, s := range goodNumbers() {
		n, _ := lexer.Number(s)
		if got := lexer.Digits(n); got != s {
			t.Errorf("Digits of the number %s: got %s", s, got)
		}
	}
}

func TestCheck(t *testing.T) {
	for _, may := range slices.Concat(tokens(), []api.Token{line()}) {
		if e := lexer.Check(may); e != api.OK {
			t.Errorf("Check of %v: error %d", may, e)
		}
	}
	for _, s := range slices.Concat(badTexts(), goodWords(), goodNumbers(), strings.Split("+-*()[],=:", ""), []string{""}) {
		for _, kind := range []int{-1, 0, api.WordT, api.NumberT, api.SignT, api.LineT, 5, 6, 257, math.MaxInt, math.MinInt} {
			own := int64(0)
			if aNumber.MatchString(s) {
				own = number(s).N
			}
			for _, n := range []int64{0, 1, -1, own, own + 1, own - 1, -own, own + 1<<32, math.MaxInt64, math.MinInt64} {
				x := api.Token{Kind: kind, S: s, N: n}
				want := api.ErrArg
				if mayBe(x) {
					want = api.OK
				}
				if e := lexer.Check(x); e != want {
					t.Errorf("Check of %d, %s, %d: error %d; want %d", kind, long(s), n, e, want)
				}
			}
		}
	}
}

// P8.2

func TestCut(t *testing.T) {
	a, b := word("a"), word("b")
	wantTokens(t, "")
	wantTokens(t, " ")
	wantTokens(t, "\t")
	wantTokens(t, "\n")
	wantTokens(t, " \n\t\n\n# all of it")
	wantTokens(t, "#")
	wantTokens(t, "# a\n# b\n")
	wantTokens(t, "#\x00\xff\r?_")
	wantTokens(t, "A[i] = 2", word("A"), sign("["), word("i"), sign("]"), sign("="), number("2"))
	wantTokens(t, "A[i]=2", word("A"), sign("["), word("i"), sign("]"), sign("="), number("2"))
	wantTokens(t, "tensor b[3, 40]: bsr 2\na[i] = sum(k, b[i, k] * -c[k])  # of all",
		word("tensor"), b, sign("["), number("3"), sign(","), number("40"), sign("]"), sign(":"), word("bsr"), number("2"), line(),
		a, sign("["), word("i"), sign("]"), sign("="), word("sum"), sign("("), word("k"), sign(","), b, sign("["), word("i"), sign(","), word("k"), sign("]"),
		sign("*"), sign("-"), word("c"), sign("["), word("k"), sign("]"), sign(")"))
	wantTokens(t, "+-*()[],=:", sign("+"), sign("-"), sign("*"), sign("("), sign(")"), sign("["), sign("]"), sign(","), sign("="), sign(":"))
	wantTokens(t, "==", sign("="), sign("="))
	wantTokens(t, "-5", sign("-"), number("5"))
	wantTokens(t, "a1", word("a1"))
	wantTokens(t, "a 1", a, number("1"))
	wantTokens(t, "1 a", number("1"), a)
	wantTokens(t, "0 0", number("0"), number("0"))
	wantTokens(t, "0\t1", number("0"), number("1"))
	wantTokens(t, "abcdefghijklmnop 999999999999999999", word("abcdefghijklmnop"), number("999999999999999999"))
	wantTokens(t, "a+1", a, sign("+"), number("1"))
	// Ends of lines.
	wantTokens(t, "a\nb", a, line(), b)
	wantTokens(t, "a\n\n\nb", a, line(), b)
	wantTokens(t, "a \n\t\n # ? \n\nb", a, line(), b)
	wantTokens(t, "a#b\nb", a, line(), b)
	wantTokens(t, "a#b#\nb#\n", a, line(), b)
	wantTokens(t, "\na", a)
	wantTokens(t, "# b\na", a)
	wantTokens(t, "a\n", a)
	wantTokens(t, "a\n\n", a)
	wantTokens(t, "a\n# b", a)
	wantTokens(t, "\n\na\n # no\n\nb\n\n", a, line(), b)
	wantTokens(t, "a\nb\na", a, line(), b, line(), a)
	wantTokens(t, "a\nb a", a, line(), b, a)
	wantTokens(t, "+\n+", sign("+"), line(), sign("+"))
	wantTokens(t, "a # b", a)
	wantTokens(t, "12#3", number("12"))
}

func TestCutErrors(t *testing.T) {
	for _, c := range []struct {
		s  string
		at int
	}{
		{"?", 0}, {" ?", 1}, {"a ?", 2}, {"a?", 1}, {"a\n?", 2}, {"\n\n?", 2}, {"# ?\n_", 4}, {"a #\n\n\t?", 6}, {"? ?", 0}, {"a ? ?", 2},
		{"01", 0}, {"00", 0}, {"a 01 02", 2}, {"+01", 1}, {"0 00", 2}, {"x 2y", 2}, {"2y", 0}, {"(2y)", 1}, {"0a", 0}, {"12 ab 3c", 6},
		{"abcdefghijklmnopq", 0}, {"a abcdefghijklmnopq ?", 2}, {"1000000000000000000", 0}, {"7 1000000000000000000", 2}, {strings.Repeat("9", 5000), 0},
		{"+" + strings.Repeat("x", 5000), 1},
		{"a\r\nb", 1}, {"\r", 0}, {"a\vb", 1}, {"\f", 0}, {"ab \x00", 3}, {"\x00", 0}, {"a é", 2}, {"é", 0}, {"aé", 1}, {"\xff", 0}, {"a\u00a0b", 1}, {"\ufeffa", 0},
		{"a.b", 1}, {"a_b", 1}, {"_", 0}, {"1.5", 1}, {"a;b", 1}, {"a<b", 1}, {"a/b", 1}, {"\"a\"", 0}, {"a 'b'", 2}, {"{}", 0}, {"a[i] := 2; b", 9},
	} {
		wantCut(t, c.s, nil, c.at, api.ErrText)
	}
}

func TestCutOfEachByte(t *testing.T) {
	for n := range 256 {
		b := string([]byte{byte(n)})
		for _, s := range []string{b, "a" + b, b + "a", "1" + b, b + "1", "a " + b, b + " a", "a" + b + "a", "+" + b + "+", "#" + b + "a", "a\n" + b, b + b, "#\n" + b} {
			want, at, e := cut(s)
			wantCut(t, s, want, at, e)
		}
	}
}

func TestCutOfAllShortTexts(t *testing.T) {
	for many := range 7 {
		texts("a01- \n#?", many, func(s string) {
			want, at, e := cut(s)
			wantCut(t, s, want, at, e)
		})
	}
}

func TestCutOfManyTexts(t *testing.T) {
	parts := slices.Concat(goodWords(), goodNumbers(), strings.Split("+-*()[],=:", ""), []string{" ", " ", " ", "\t", "\n", "\n", "  ", " \n\n ", "#", "# of it ?\n"})
	for salt := range 3000 {
		next := counted(salt)
		var s strings.Builder
		for range next(40) {
			s.WriteString(parts[next(len(parts))])
			if next(3) > 0 {
				s.WriteString(" ")
			}
		}
		if salt%3 == 0 {
			s.WriteString(badTexts()[next(60)])
		}
		want, at, e := cut(s.String())
		wantCut(t, s.String(), want, at, e)
	}
}

func TestCutOfMuch(t *testing.T) {
	// As many bytes as there may be, and one more.
	wantTokens(t, strings.Repeat(" ", 65536))
	wantTokens(t, strings.Repeat("\n", 65536))
	wantTokens(t, "#"+strings.Repeat("x", 65535))
	wantTokens(t, "a"+strings.Repeat("\n", 65534)+"b", word("a"), line(), word("b"))
	wantCut(t, strings.Repeat(" ", 65535)+"?", nil, 65535, api.ErrText)
	wantCut(t, strings.Repeat("a", 65536), nil, 0, api.ErrText)
	for _, s := range []string{
		strings.Repeat(" ", 65537), strings.Repeat("\n", 65537), "a" + strings.Repeat("\n", 65536), "#" + strings.Repeat("x", 65536), strings.Repeat("+", 65537),
		// So much of it is not looked at.
		"?" + strings.Repeat(" ", 65536), strings.Repeat("a", 65537), strings.Repeat("?", 1<<20),
	} {
		wantCut(t, s, nil, 0, api.ErrLarge)
	}
}

func TestCutOfManyTokens(t *testing.T) {
	wantTokens(t, strings.Repeat("+", 4096), slices.Repeat([]api.Token{sign("+")}, 4096)...)
	wantTokens(t, strings.Repeat("ab 9 ", 2048), slices.Repeat([]api.Token{word("ab"), number("9")}, 2048)...)
	// An end of a line is one, too, but not ahead of all, nor behind all.
	wantTokens(t, "\n"+strings.Repeat("+", 4096)+"\n", slices.Repeat([]api.Token{sign("+")}, 4096)...)
	lines := slices.Repeat([]api.Token{sign("+"), line()}, 2048)
	wantTokens(t, strings.Repeat("+\n", 2048), lines[:4095]...)
	wantTokens(t, strings.Repeat("+\n", 2047)+"++", append(slices.Clone(lines[:4094]), sign("+"), sign("+"))...)
	for _, s := range []string{
		strings.Repeat("+", 4097), strings.Repeat("+", 65536), strings.Repeat("a ", 4097), strings.Repeat("7\n", 2049), strings.Repeat("+\n", 2048) + "+",
		strings.Repeat("+", 4095) + "\n+", "+\n" + strings.Repeat("+", 4095), strings.Repeat("(a)", 1366),
	} {
		wantCut(t, s, nil, 0, api.ErrLarge)
	}
	// What is no token is told first, however many are ahead of it.
	wantCut(t, strings.Repeat("+", 4096)+"?", nil, 4096, api.ErrText)
	wantCut(t, strings.Repeat("+", 4097)+"?", nil, 4097, api.ErrText)
	wantCut(t, strings.Repeat("a\n", 30000)+"01", nil, 60000, api.ErrText)
	wantCut(t, strings.Repeat("+", 65535)+"_", nil, 65535, api.ErrText)
}

// P8.3

// tokens are such as may be, but no ends of lines.
func tokens() []api.Token {
	var l []api.Token
	for _, s := range goodWords() {
		l = append(l, word(s))
	}
	for _, s := range goodNumbers() {
		l = append(l, number(s))
	}
	for _, s := range strings.Split("+-*()[],=:", "") {
		l = append(l, sign(s))
	}
	return l
}

// joinable tells by the chapter's words whether ends of lines stand where they may.
func joinable(l []api.Token) bool {
	for k, x := range l {
		if x.Kind == api.LineT && (k == 0 || k == len(l)-1 || l[k-1].Kind == api.LineT) {
			return false
		}
	}
	return true
}

// joined is a list's text, by the chapter's words.
func joined(l []api.Token) string {
	s := ""
	for k, x := range l {
		switch {
		case x.Kind == api.LineT:
			s += "\n"
		case k > 0 && l[k-1].Kind != api.LineT:
			s += " " + x.S
		default:
			s += x.S
		}
	}
	return s
}

func wantJoin(t *testing.T, want string, f api.Errno, l ...api.Token) {
	t.Helper()
	if s, e := lexer.Join(l...); s != want || e != f {
		t.Errorf("Join of %d tokens %v: got %s, error %d; want %s, error %d", len(l), some(l), long(s), e, long(want), f)
	}
}

func TestJoin(t *testing.T) {
	a, b := word("a"), word("b")
	wantJoin(t, "", api.OK)
	wantJoin(t, "a", api.OK, a)
	wantJoin(t, "907", api.OK, number("907"))
	wantJoin(t, "+", api.OK, sign("+"))
	wantJoin(t, "a b", api.OK, a, b)
	wantJoin(t, "a a", api.OK, a, a)
	wantJoin(t, "- 5", api.OK, sign("-"), number("5"))
	wantJoin(t, "a\nb", api.OK, a, line(), b)
	wantJoin(t, "a = 5\nb", api.OK, a, sign("="), number("5"), line(), b)
	wantJoin(t, "a b\nb a\na", api.OK, a, b, line(), b, a, line(), a)
	wantJoin(t, "A [ i ] = 2", api.OK, word("A"), sign("["), word("i"), sign("]"), sign("="), number("2"))
}

// each calls f with all lists of up to so many of the tokens.
func each(from []api.Token, most int, f func(l []api.Token)) {
	var further func(l []api.Token)
	further = func(l []api.Token) {
		f(l)
		if len(l) < most {
			for _, x := range from {
				further(append(l, x))
			}
		}
	}
	further(nil)
}

func TestJoinOfAllShortLists(t *testing.T) {
	each([]api.Token{word("a"), number("10"), sign("="), line()}, 6, func(l []api.Token) {
		if joinable(l) {
			wantJoin(t, joined(l), api.OK, l...)
		} else {
			wantJoin(t, "", api.ErrArg, l...)
		}
	})
}

// badTokens are such as may not be.
func badTokens() []api.Token {
	l := []api.Token{
		{}, {S: "a"}, {N: 1}, {Kind: 5}, {Kind: -1, S: "a"}, {Kind: 5, S: "a"}, {Kind: math.MaxInt, S: "+"}, {Kind: api.WordT}, {Kind: api.NumberT}, {Kind: api.SignT},
		{Kind: api.WordT, S: "a", N: 1}, {Kind: api.WordT, S: "5"}, {Kind: api.WordT, S: "5", N: 5}, {Kind: api.WordT, S: "+"},
		{Kind: api.NumberT, S: "5"}, {Kind: api.NumberT, S: "5", N: 6}, {Kind: api.NumberT, S: "0", N: 1}, {Kind: api.NumberT, S: "a"}, {Kind: api.NumberT, S: "-5", N: -5},
		{Kind: api.NumberT, S: "05", N: 5}, {Kind: api.NumberT, S: "1000000000000000000", N: 1000000000000000000}, {Kind: api.NumberT, S: "+"},
		{Kind: api.SignT, S: "=="}, {Kind: api.SignT, S: "a"}, {Kind: api.SignT, S: "+", N: 1}, {Kind: api.SignT, S: "#"}, {Kind: api.SignT, S: " "}, {Kind: api.SignT, S: "\n"},
		{Kind: api.LineT, S: "\n"}, {Kind: api.LineT, N: 1}, {Kind: api.LineT, S: "a"}, {Kind: api.LineT, S: " "},
	}
	for _, s := range badTexts() {
		l = append(l, word(s), sign(s), api.Token{Kind: api.NumberT, S: s}, api.Token{Kind: api.LineT, S: s})
	}
	return l
}

func TestJoinErrors(t *testing.T) {
	a, b := word("a"), word("b")
	for _, l := range [][]api.Token{
		{line()}, {line(), line()}, {line(), a}, {a, line()}, {line(), a, line()}, {a, line(), line(), b}, {a, line(), line(), line(), b}, {line(), line(), a},
		{a, line(), b, line()}, {a, line(), b, line(), line(), a}, {line(), a, b}, {a, b, line()},
	} {
		wantJoin(t, "", api.ErrArg, l...)
	}
	for _, bad := range badTokens() {
		for _, l := range [][]api.Token{{bad}, {bad, a}, {a, bad}, {a, bad, b}, {a, line(), bad}, {bad, line(), a}, {bad, bad}, {a, b, a, b, bad}} {
			wantJoin(t, "", api.ErrArg, l...)
		}
	}
}

func TestJoinOfMany(t *testing.T) {
	a := word("a")
	most := slices.Repeat([]api.Token{a}, 4096)
	wantJoin(t, "a"+strings.Repeat(" a", 4095), api.OK, most...)
	wantJoin(t, strings.Repeat("a\n", 2047)+"a a", api.OK, append(slices.Repeat([]api.Token{a, line()}, 2047), a, a)...)
	// Its text may be longer than one that is cut.
	wantJoin(t, "999999999999999999"+strings.Repeat(" 999999999999999999", 4095), api.OK, slices.Repeat([]api.Token{number("999999999999999999")}, 4096)...)
	many := slices.Repeat([]api.Token{a}, 4097)
	wantJoin(t, "", api.ErrLarge, many...)
	wantJoin(t, "", api.ErrLarge, append(slices.Repeat([]api.Token{a, line()}, 2048), a)...)
	wantJoin(t, "", api.ErrLarge, slices.Repeat(many, 20)...)
	// What may not be is told first, however many there are.
	for _, k := range []int{0, 1, 2000, 4095, 4096} {
		for _, bad := range badTokens()[:20] {
			l := slices.Clone(many)
			l[k] = bad
			wantJoin(t, "", api.ErrArg, l...)
		}
	}
	wantJoin(t, "", api.ErrArg, append(slices.Clone(many), line())...)
	wantJoin(t, "", api.ErrArg, append([]api.Token{line()}, many...)...)
	wantJoin(t, "", api.ErrArg, slices.Concat(many, []api.Token{line(), line()}, many)...)
	wantJoin(t, "", api.ErrArg, slices.Concat(many, []api.Token{{Kind: api.LineT, N: 1}}, many)...)
}

func wantLines(t *testing.T, l []api.Token, want ...[]api.Token) {
	t.Helper()
	if got := lexer.Lines(l); !slices.EqualFunc(got, want, slices.Equal) {
		t.Errorf("Lines of %v: got %v, want %v", some(l), some(got), some(want))
	}
}

func TestLines(t *testing.T) {
	a, b, none := word("a"), word("b"), []api.Token(nil)
	wantLines(t, nil)
	wantLines(t, []api.Token{})
	wantLines(t, []api.Token{a}, []api.Token{a})
	wantLines(t, []api.Token{a, b, sign("+")}, []api.Token{a, b, sign("+")})
	wantLines(t, []api.Token{a, line(), b}, []api.Token{a}, []api.Token{b})
	wantLines(t, []api.Token{a, line(), b, number("2"), line(), sign("=")}, []api.Token{a}, []api.Token{b, number("2")}, []api.Token{sign("=")})
	// A cut makes two of one, wherever it is.
	wantLines(t, []api.Token{line()}, none, none)
	wantLines(t, []api.Token{line(), a}, none, []api.Token{a})
	wantLines(t, []api.Token{a, line()}, []api.Token{a}, none)
	wantLines(t, []api.Token{a, line(), line(), b}, []api.Token{a}, none, []api.Token{b})
	wantLines(t, []api.Token{line(), line()}, none, none, none)
	// Whether they may be is not asked; there may be any number.
	wantLines(t, []api.Token{word("?"), {Kind: api.LineT, S: "x", N: 3}, {Kind: 9}, {}}, []api.Token{word("?")}, []api.Token{{Kind: 9}, {}})
	wantLines(t, slices.Repeat([]api.Token{a}, 70000), slices.Repeat([]api.Token{a}, 70000))
	if got := lexer.Lines(slices.Repeat([]api.Token{a, line()}, 70000)); len(got) != 70001 || len(got[0]) != 1 || len(got[69999]) != 1 || len(got[70000]) != 0 {
		t.Errorf("got %d lines", len(got))
	}
}

func TestLinesOfAllShortLists(t *testing.T) {
	each([]api.Token{word("a"), sign("="), line()}, 7, func(l []api.Token) {
		var want [][]api.Token
		for rest := l; len(l) > 0; {
			k := slices.IndexFunc(rest, func(x api.Token) bool { return x.Kind == api.LineT })
			if k < 0 {
				want = append(want, rest)
				break
			}
			want, rest = append(want, rest[:k]), rest[k+1:]
		}
		wantLines(t, l, want...)
	})
}

// P8.4

// anyTokens is a list that may be joined, of no order.
func anyTokens(salt, most int) []api.Token {
	next, from := counted(salt), tokens()
	var l []api.Token
	for range next(most + 1) {
		if len(l) > 0 && next(5) == 0 {
			l = append(l, line())
		}
		l = append(l, from[next(len(from))])
	}
	return l
}

func TestWhatIsJoinedIsCutAsItWas(t *testing.T) {
	wantBack := func(l []api.Token) {
		s, e := lexer.Join(l...)
		if e != api.OK {
			t.Fatalf("Join of %v: error %d", some(l), e)
		}
		wantTokens(t, s, l...)
	}
	each([]api.Token{word("a"), number("0"), number("12"), sign("-"), line()}, 5, func(l []api.Token) {
		if joinable(l) {
			wantBack(l)
		}
	})
	for salt := range 2000 {
		wantBack(anyTokens(salt, 60))
	}
	for _, x := range tokens() {
		for _, y := range tokens() {
			wantBack([]api.Token{x, y})
			wantBack([]api.Token{x, line(), y})
		}
	}
	wantBack(slices.Repeat([]api.Token{word("abcdefghijklmno")}, 4096))
	wantBack(append(slices.Repeat([]api.Token{number("100000000000000000"), line(), sign(":")}, 1365), sign("(")))
	// The lines of what is joined are joined each by itself.
	for salt := range 300 {
		l := anyTokens(salt, 40)
		s, _ := lexer.Join(l...)
		var own []string
		for _, x := range lexer.Lines(l) {
			one, _ := lexer.Join(x...)
			own = append(own, one)
		}
		if strings.Join(own, "\n") != s {
			t.Errorf("Join of %v: got %s; of its lines %v", some(l), long(s), own)
		}
	}
}

// TestWhatIsTooLongIsNotCut: as many tokens as may be joined may have a longer text than may be cut.
func TestWhatIsTooLongIsNotCut(t *testing.T) {
	s, e := lexer.Join(slices.Repeat([]api.Token{word("abcdefghijklmnop")}, 4096)...)
	if len(s) != 4096*17-1 || e != api.OK {
		t.Errorf("got %d bytes, error %d", len(s), e)
	}
	wantCut(t, s, nil, 0, api.ErrLarge)
}

// spread writes tokens with what is passed over around them.
func spread(l []api.Token, next func(below int) int) string {
	within, ahead := []string{" ", "\t", "  ", " \t "}, []string{"\n", " \n\t", "\n\n", "#\n", "# a ? 01\n", " ## b\n\n\t# c\n", "\n#é\xff\x00\r\n "}
	var s strings.Builder
	write := func(from []string, most int) {
		for range next(most + 1) {
			s.WriteString(from[next(len(from))])
		}
	}
	write(slices.Concat(within, ahead), 3)
	for k, x := range l {
		if x.Kind == api.LineT {
			s.WriteString(ahead[next(len(ahead))])
			write(slices.Concat(within, ahead), 3)
			continue
		}
		s.WriteString(x.S)
		write(within, 2)
		if k+1 < len(l) && x.Kind != api.SignT && (l[k+1].Kind == api.WordT || l[k+1].Kind == api.NumberT) {
			s.WriteString(within[next(len(within))])
		}
	}
	write(slices.Concat(within, ahead), 3)
	if next(3) == 0 {
		s.WriteString("# and that is all")
	}
	return s.String()
}

func TestWhatIsPassedOverChangesNothing(t *testing.T) {
	for salt := range 3000 {
		l := anyTokens(salt, 30)
		wantTokens(t, spread(l, counted(salt+1)), l...)
	}
}

// R2

func TestNothingHandedInIsChanged(t *testing.T) {
	l := append(anyTokens(5, 40), word("behind"), word("all"))
	l = l[:len(l)-2]
	was := slices.Clone(l[:cap(l)])
	unchanged := func(what string) {
		t.Helper()
		if !slices.Equal(l[:cap(l)], was) {
			t.Errorf("%s changed what it was handed: %v", what, l)
		}
	}
	if _, e := lexer.Join(l...); e != api.OK {
		t.Fatalf("error %d", e)
	}
	unchanged("Join")
	lines := lexer.Lines(l)
	unchanged("Lines")
	for _, x := range lines {
		x = x[:cap(x)]
		for k := range x {
			x[k] = word("other")
		}
	}
	unchanged("who wrote to what Lines answered")
}

func TestNothingIsKept(t *testing.T) {
	l := anyTokens(6, 40)
	handed := slices.Clone(l)
	s, _ := lexer.Join(handed...)
	lines := lexer.Lines(handed)
	for k := range handed {
		handed[k] = word("other")
	}
	if s != joined(l) {
		t.Errorf("got %s, once what was handed in is written to", long(s))
	}
	if again := lexer.Lines(l); !slices.EqualFunc(lines, again, slices.Equal) {
		t.Errorf("got %v, once what was handed in is written to; want %v", some(lines), some(again))
	}
	// Nor does what was told before count, written to as it may be.
	first, _, _ := lexer.Cut(s)
	for k := range first {
		first[k] = word("other")
	}
	wantTokens(t, s, l...)
}

func TestNoTwoLinesAreShared(t *testing.T) {
	for salt := range 100 {
		lines := lexer.Lines(anyTokens(salt, 40))
		// From behind, as what stands behind a line is its own, too: writing there must not reach one that is written already.
		for n, x := range slices.Backward(lines) {
			x = x[:cap(x)]
			for k := range x {
				x[k].N = int64(100 + n)
			}
		}
		for n, x := range lines {
			if slices.ContainsFunc(x, func(y api.Token) bool { return y.N != int64(100+n) }) {
				t.Errorf("line %d is written to by another one's: got %v", n, x)
			}
		}
	}
}
