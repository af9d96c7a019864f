package tests

import (
	"math"
	"math/big"
	"math/rand"
	"slices"
	"strings"
	"testing"

	"loop.example/g00694/impl"
)

// writtenFrom writes a term from its root to the front, another way than the program's, and tells where its tree starts.
func writtenFrom(t []impl.Node, root int) (string, int) {
	node := t[root]
	switch node.Op {
	case impl.OpNum:
		return big.NewInt(node.N).String(), root
	case impl.OpVar:
		return string(rune('a' + node.N)), root
	}
	between := map[int]string{
		impl.OpNeg: "~.", impl.OpAdd: "(.+.)", impl.OpSub: "(.-.)", impl.OpMul: "(.*.)", impl.OpShl: "(.<<.)",
		impl.OpDiv: "(./.)", impl.OpEq: "(.==.)", impl.OpLess: "(.<.)", impl.OpIf: "(.?.:.)",
	}
	pieces := strings.Split(between[node.Op], ".")
	out, start := pieces[len(pieces)-1], root
	for i := len(pieces) - 2; i >= 0; i-- {
		var part string
		part, start = writtenFrom(t, start-1)
		out = pieces[i] + part + out
	}
	return out, start
}

func written(t []impl.Node) string {
	s, _ := writtenFrom(t, len(t)-1)
	return s
}

// toldOf keeps a pile of what must still come: T a part, R what goes on behind
// a first part, E a second "=", L perhaps a second "<", a byte itself. It tells
// the place and whether the text is one of a term of at most MaxNodes nodes.
func toldOf(s string) (int, bool) {
	if len(s) > impl.MaxText {
		return 0, false
	}
	pile, at, nodes := "T", 0, 0
	for pile != "" {
		top := pile[len(pile)-1]
		pile = pile[:len(pile)-1]
		if top == 'L' {
			if at < len(s) && s[at] == '<' {
				at++
			}
			continue
		}
		if at == len(s) {
			return at, false
		}
		c := s[at]
		switch {
		case top == 'T' && c == '~':
			pile += "T"
			nodes++
		case top == 'T' && c == '(':
			pile += "RT"
			nodes++
		case top == 'T' && c >= 'a' && c <= 'd':
			nodes++
		case top == 'T' && (c == '-' || c >= '0' && c <= '9'):
			digits := strings.TrimPrefix(s[at:], "-")
			rest := strings.TrimLeft(digits, "0123456789")
			if digits == rest {
				return at + 1, false
			}
			text := s[at : len(s)-len(rest)]
			if n, ok := new(big.Int).SetString(text, 10); !ok || !n.IsInt64() || n.String() != text {
				return at, false
			}
			at += len(text) - 1
			nodes++
		case top == 'R' && c == '?':
			pile += ")T:T"
		case top == 'R' && c == '<':
			pile += ")TL"
		case top == 'R' && c == '=':
			pile += ")TE"
		case top == 'R' && strings.IndexByte("+-*/", c) >= 0:
			pile += ")T"
		case top == 'E' && c == '=', top == ')' && c == ')', top == ':' && c == ':':
		default:
			return at, false
		}
		at++
	}
	if at < len(s) {
		return at, false
	}
	if nodes > impl.MaxNodes {
		return 0, false
	}
	return at, true
}

func expectRead(t *testing.T, s string, want []impl.Node) {
	t.Helper()
	term, at, ok := impl.ReadTerm(s)
	if !ok || at != len(s) || !slices.Equal(term, want) {
		t.Errorf("ReadTerm(%q) = %v, %d, %v, want %v, %d, true", s, term, at, ok, want, len(s))
	}
	if n, ok := impl.NodeCount(s); n != len(want) || !ok {
		t.Errorf("NodeCount(%q) = %d, %v, want %d, true", s, n, ok, len(want))
	}
	if back, ok := impl.TermText(term); back != s || !ok {
		t.Errorf("TermText(%v) = %q, %v, want %q, true", term, back, ok, s)
	}
}

func expectFault(t *testing.T, s string, place int) {
	t.Helper()
	term, at, ok := impl.ReadTerm(s)
	if ok || at != place || len(term) != 0 {
		t.Errorf("ReadTerm(%q) = %v, %d, %v, want none, %d, false", s, term, at, ok, place)
	}
	if n, ok := impl.NodeCount(s); n != 0 || ok {
		t.Errorf("NodeCount(%q) = %d, %v, want 0, false", s, n, ok)
	}
}

// expectAsTold holds ReadTerm against toldOf.
func expectAsTold(t *testing.T, s string) {
	t.Helper()
	place, is := toldOf(s)
	if !is {
		expectFault(t, s, place)
		return
	}
	term, at, ok := impl.ReadTerm(s)
	if !ok || at != place || !impl.GoodTerm(term) || written(term) != s {
		t.Errorf("ReadTerm(%q) = %v, %d, %v, want a term, %d, true", s, term, at, ok, place)
	}
}

var writtenTerms = []struct {
	text string
	term []impl.Node
}{
	{"0", num(0)},
	{"7", num(7)},
	{"-7", num(-7)},
	{"9223372036854775807", num(math.MaxInt64)},
	{"-9223372036854775808", num(math.MinInt64)},
	{"a", variable(0)},
	{"b", variable(1)},
	{"c", variable(2)},
	{"d", variable(3)},
	{"~a", negated(variable(0), 1)},
	{"~~~d", negated(variable(3), 3)},
	{"~-1", negated(num(-1), 1)},
	{"~~-9223372036854775808", negated(num(math.MinInt64), 2)},
	{"(a+b)", joinedNodes(impl.OpAdd, variable(0), variable(1))},
	{"(b-a)", joinedNodes(impl.OpSub, variable(1), variable(0))},
	{"(c*10)", joinedNodes(impl.OpMul, variable(2), num(10))},
	{"(a<<1)", joinedNodes(impl.OpShl, variable(0), num(1))},
	{"(5/d)", joinedNodes(impl.OpDiv, num(5), variable(3))},
	{"(a==0)", joinedNodes(impl.OpEq, variable(0), num(0))},
	{"(a<b)", joinedNodes(impl.OpLess, variable(0), variable(1))},
	{"(a?b:c)", joinedNodes(impl.OpIf, variable(0), variable(1), variable(2))},
	{"~(a?-1:~0)", negated(joinedNodes(impl.OpIf, variable(0), num(-1), negated(num(0), 1)), 1)},
	{"(a-1)", joinedNodes(impl.OpSub, variable(0), num(1))},
	{"(a--1)", joinedNodes(impl.OpSub, variable(0), num(-1))},
	{"(-1--1)", joinedNodes(impl.OpSub, num(-1), num(-1))},
	{"(12-34)", joinedNodes(impl.OpSub, num(12), num(34))},
	{"(1+-2)", joinedNodes(impl.OpAdd, num(1), num(-2))},
	{"(a<-1)", joinedNodes(impl.OpLess, variable(0), num(-1))},
	{"(a<<-1)", joinedNodes(impl.OpShl, variable(0), num(-1))},
	{"(a<(b<<c))", joinedNodes(impl.OpLess, variable(0), joinedNodes(impl.OpShl, variable(1), variable(2)))},
	{"((a<b)<<(c<d))", joinedNodes(impl.OpShl, joinedNodes(impl.OpLess, variable(0), variable(1)), joinedNodes(impl.OpLess, variable(2), variable(3)))},
	{"((a?b:c)==(a?~b:(b/c)))", joinedNodes(impl.OpEq, joinedNodes(impl.OpIf, variable(0), variable(1), variable(2)),
		joinedNodes(impl.OpIf, variable(0), negated(variable(1), 1), joinedNodes(impl.OpDiv, variable(1), variable(2))))},
	{"((a?b:c)?(a?b:d):(d?c:a))", joinedNodes(impl.OpIf, joinedNodes(impl.OpIf, variable(0), variable(1), variable(2)),
		joinedNodes(impl.OpIf, variable(0), variable(1), variable(3)), joinedNodes(impl.OpIf, variable(3), variable(2), variable(0)))},
}

func TestTermsAndTheirTexts(t *testing.T) {
	if impl.MaxText != 1200 {
		t.Fatal("limit", impl.MaxText)
	}
	for _, x := range writtenTerms {
		if s, ok := impl.TermText(x.term); s != x.text || !ok {
			t.Errorf("TermText(%v) = %q, %v, want %q, true", x.term, s, ok, x.text)
		}
		expectRead(t, x.text, x.term)
	}
}

func TestATermIsReadBackFromItsText(t *testing.T) {
	r := rand.New(rand.NewSource(30))
	for nodes := 1; nodes <= impl.MaxNodes; nodes++ {
		for range 150 {
			term := randomTerm(r, nodes)
			s, ok := impl.TermText(term)
			if want := written(term); s != want || !ok {
				t.Fatalf("TermText(%v) = %q, %v, want %q, true", term, s, ok, want)
			}
			expectRead(t, s, term)
		}
	}
}

func TestEachNumberIsReadBack(t *testing.T) {
	for _, n := range wrapNumbers {
		text := big.NewInt(n).String()
		expectRead(t, text, num(n))
		expectRead(t, "~"+text, negated(num(n), 1))
		expectRead(t, "("+text+"-"+text+")", joinedNodes(impl.OpSub, num(n), num(n)))
		expectRead(t, "("+text+"?"+text+":"+text+")", joinedNodes(impl.OpIf, num(n), num(n), num(n)))
	}
}

func TestNumbersThatAreNotInTheirOneForm(t *testing.T) {
	for _, bad := range []string{
		"00", "01", "007", "-0", "-00", "-01", "-007", "0123456789",
		"9223372036854775808", "-9223372036854775809", "18446744073709551616", "-18446744073709551615",
		"09223372036854775807", "-09223372036854775808", "99999999999999999999", "-99999999999999999999",
		"100000000000000000000", strings.Repeat("9", 300), "-" + strings.Repeat("1", 300), strings.Repeat("0", impl.MaxText),
	} {
		expectFault(t, bad, 0)
		if len(bad) > impl.MaxText/2 {
			continue
		}
		expectFault(t, "~"+bad, 1)
		expectFault(t, "("+bad, 1)
		expectFault(t, "("+bad+"+a)", 1)
		expectFault(t, "(a+"+bad+")", 3)
		expectFault(t, "(a-"+bad+")", 3)
		expectFault(t, "(a<<"+bad+")", 4)
		expectFault(t, "(a?"+bad+":b)", 3)
		expectFault(t, "(a?b:"+bad+")", 5)
		// The number is the first fault that is met, whatever follows.
		expectFault(t, "(a+"+bad, 3)
		expectFault(t, "(a+"+bad+" )", 3)
		expectFault(t, "(a+"+bad+"x", 3)
	}
	expectFault(t, "( 007", 1)
	expectFault(t, "a007", 1)
	expectFault(t, "(a007", 2)
}

func TestAMinusWithNoDigitBehindIt(t *testing.T) {
	expectFault(t, "-", 1)
	expectFault(t, "--", 1)
	expectFault(t, "--1", 1)
	expectFault(t, "-a", 1)
	expectFault(t, "-(a+b)", 1)
	expectFault(t, "-~1", 1)
	expectFault(t, "- 1", 1)
	expectFault(t, "-\xff", 1)
	expectFault(t, "-\u0663", 1)
	expectFault(t, "~-", 2)
	expectFault(t, "(-+a)", 2)
	expectFault(t, "(a--)", 4)
	expectFault(t, "(a--b)", 4)
	expectFault(t, "(a---1)", 4)
	expectFault(t, "(a-", 3)
	expectFault(t, "(a--", 4)
	expectFault(t, "(a-)", 3)
	expectFault(t, "(a?-:b)", 4)
	expectFault(t, "(a?b:-", 6)
	// Behind a whole term a minus itself can't go on.
	expectFault(t, "a-", 1)
	expectFault(t, "a-1", 1)
	expectFault(t, "12-3", 2)
}

func TestTheLongerSignIsRead(t *testing.T) {
	expectRead(t, "(a<<b)", joinedNodes(impl.OpShl, variable(0), variable(1)))
	expectRead(t, "(a<b)", joinedNodes(impl.OpLess, variable(0), variable(1)))
	expectRead(t, "(a==b)", joinedNodes(impl.OpEq, variable(0), variable(1)))
	expectFault(t, "(a<", 3)
	expectFault(t, "(a<<", 4)
	expectFault(t, "(a<)", 3)
	expectFault(t, "(a<<)", 4)
	expectFault(t, "(a<<<b)", 4)
	expectFault(t, "(a< <b)", 3)
	expectFault(t, "(a<=b)", 3)
	expectFault(t, "(a=", 3)
	expectFault(t, "(a=b)", 3)
	expectFault(t, "(a=)", 3)
	expectFault(t, "(a=<b)", 3)
	expectFault(t, "(a=-1)", 3)
	expectFault(t, "(a= =b)", 3)
	expectFault(t, "(a==", 4)
	expectFault(t, "(a==)", 4)
	expectFault(t, "(a===b)", 4)
	expectFault(t, "(=", 1)
	expectFault(t, "(==", 1)
	expectFault(t, "a==b", 1)
	expectFault(t, "(a++b)", 3)
	expectFault(t, "(a//b)", 3)
	expectFault(t, "(a**b)", 3)
	expectFault(t, "(a>b)", 2)
	expectFault(t, "(a>>b)", 2)
	expectFault(t, "(a%b)", 2)
	expectFault(t, "(a~b)", 2)
}

func TestBracketsAndChoices(t *testing.T) {
	expectFault(t, ")", 0)
	expectFault(t, "()", 1)
	expectFault(t, "(a)", 2)
	expectFault(t, "((a+b))", 6)
	expectFault(t, "(a b)", 2)
	expectFault(t, "(ab)", 2)
	expectFault(t, "(a(b)", 2)
	expectFault(t, "(a+b+c)", 4)
	expectFault(t, "(a+b?c:d)", 4)
	expectFault(t, "(a+b:c)", 4)
	expectFault(t, "(a:b)", 2)
	expectFault(t, "(a?b)", 4)
	expectFault(t, "(a?b?c)", 4)
	expectFault(t, "(a?:c)", 3)
	expectFault(t, "(?b:c)", 1)
	expectFault(t, "(a?b:)", 5)
	expectFault(t, "(a?b:c:d)", 6)
	expectFault(t, "(a?b+c:d)", 4)
	expectFault(t, "~", 1)
	expectFault(t, "~)", 1)
	expectFault(t, "(~+a)", 2)
	expectFault(t, "+a", 0)
	expectFault(t, "+1", 0)
	expectFault(t, "e", 0)
	expectFault(t, "A", 0)
	expectFault(t, "`", 0)
	expectFault(t, "_", 0)
	expectFault(t, "/", 0)
	expectFault(t, ":", 0)
	expectFault(t, "a=>b", 1)
}

func TestWhatFollowsBehindATerm(t *testing.T) {
	for _, x := range writtenTerms {
		for _, more := range []string{"a", "(", ")", "~", "+", "<", "?", ":", "=", " ", "\n", "\x00", "\xff", "é", "(a+b)"} {
			expectFault(t, x.text+more, len(x.text))
		}
	}
	expectFault(t, "1a", 1)
	expectFault(t, "a1", 1)
	expectFault(t, "ab", 1)
	expectFault(t, "(a+b)(a+b)", 5)
}

func TestTextsThatEndTooEarly(t *testing.T) {
	expectFault(t, "", 0)
	expectFault(t, "(", 1)
	expectFault(t, "(a", 2)
	expectFault(t, "(a+", 3)
	expectFault(t, "(a+b", 4)
	expectFault(t, "(a?b", 4)
	expectFault(t, "(a?b:", 5)
	expectFault(t, "(a?b:c", 6)
	expectFault(t, "(12", 3)
	r := rand.New(rand.NewSource(31))
	for range 500 {
		s := written(randomTerm(r, 2+r.Intn(impl.MaxNodes-1)))
		if !strings.HasSuffix(s, ")") {
			continue
		}
		for n := strings.IndexByte(s, '('); n >= 0 && n < len(s); n++ {
			expectFault(t, s[:n], n)
		}
	}
}

func TestBlanksAreFaults(t *testing.T) {
	for _, blank := range []string{" ", "\t", "\n", "\r", "\v", "\f", "\u00a0", "\u2003", "\ufeff"} {
		expectFault(t, blank, 0)
		expectFault(t, blank+"a", 0)
		expectFault(t, "a"+blank, 1)
		expectFault(t, "~"+blank+"a", 1)
		expectFault(t, "("+blank+"a+b)", 1)
		expectFault(t, "(a"+blank+"+b)", 2)
		expectFault(t, "(a+"+blank+"b)", 3)
		expectFault(t, "(a+b"+blank+")", 4)
		expectFault(t, "(a+b)"+blank, 5)
		expectFault(t, "-"+blank+"1", 1)
		expectFault(t, "(1"+blank+"2+b)", 2)
	}
}

func TestBytesThatAreNoASCII(t *testing.T) {
	for _, odd := range []string{
		"\x00", "\x7f", "\x80", "\xbf", "\xc3", "\xff", "\xe2\x82", "é", "а", "ａ", "\u0661", "１", "（", "−", "€", "\U0001d44e", "\ufffd", "\U0010ffff",
	} {
		expectFault(t, odd, 0)
		expectFault(t, odd+"a", 0)
		expectFault(t, "a"+odd, 1)
		expectFault(t, "1"+odd, 1)
		expectFault(t, "1"+odd+"2", 1)
		expectFault(t, "("+odd, 1)
		expectFault(t, "(a"+odd+"b)", 2)
		expectFault(t, "(a<"+odd+"<b)", 3)
		expectFault(t, "(a="+odd+"b)", 3)
		expectFault(t, "(a+"+odd+")", 3)
		expectFault(t, "(a?b"+odd+"c)", 4)
		expectFault(t, "(a?b:c"+odd, 6)
	}
}

func TestEachByteAtEachPlace(t *testing.T) {
	for _, x := range writtenTerms {
		for at := range len(x.text) + 1 {
			for c := range 256 {
				one := string([]byte{byte(c)})
				expectAsTold(t, x.text[:at]+one+x.text[at:])
				if at < len(x.text) {
					expectAsTold(t, x.text[:at]+one+x.text[at+1:])
				}
			}
			if at < len(x.text) {
				expectAsTold(t, x.text[:at]+x.text[at+1:])
			}
		}
	}
}

func TestTextsOfAnyPieces(t *testing.T) {
	pieces := []string{
		"a", "b", "d", "e", "0", "1", "12", "007", "-", "-5", "~", "(", ")", "+", "*", "/", "<", "<<", "=", "==", "?", ":",
		"(a+b)", "(a?b:c)", "9223372036854775807", "9223372036854775808", " ", "é", "\xc3",
	}
	r := rand.New(rand.NewSource(32))
	for range 100000 {
		s := ""
		for range r.Intn(9) {
			s += pieces[r.Intn(len(pieces))]
		}
		expectAsTold(t, s)
	}
	for range 20000 {
		s := []byte(written(randomTerm(r, 1+r.Intn(impl.MaxNodes+8))))
		for range r.Intn(3) {
			s[r.Intn(len(s))] = "abcd0123456789-~()+*/<=?: \xe9"[r.Intn(27)]
		}
		expectAsTold(t, string(s))
	}
}

func TestTextsOfMaxTextBytes(t *testing.T) {
	tildes := strings.Repeat("~", impl.MaxText)
	// The last place of a text of MaxText bytes is told; of one byte more 0 is.
	expectFault(t, tildes, impl.MaxText)
	expectFault(t, tildes+"~", 0)
	expectFault(t, tildes[1:]+"x", impl.MaxText-1)
	expectFault(t, tildes+"x", 0)
	expectFault(t, tildes[1:]+"-", impl.MaxText)
	expectFault(t, tildes+"-", 0)
	expectFault(t, tildes[2:]+"00", impl.MaxText-2)
	expectFault(t, tildes[1:]+"a", 0)
	expectFault(t, tildes+"a", 0)
	brackets := strings.Repeat("(", impl.MaxText)
	expectFault(t, brackets, impl.MaxText)
	expectFault(t, brackets+"(", 0)
	expectFault(t, "a"+brackets[1:], 1)
	expectFault(t, "a"+brackets, 0)
	// Bytes are counted, not runes.
	expectFault(t, "a"+strings.Repeat("é", impl.MaxText/2), 0)
	expectFault(t, "ab"+strings.Repeat("é", impl.MaxText/2-1), 1)
	expectFault(t, strings.Repeat("~", 1<<20), 0)
}

func TestTermsOfTooManyNodes(t *testing.T) {
	full := strings.Repeat("~", impl.MaxNodes-1) + "a"
	expectRead(t, full, negated(variable(0), impl.MaxNodes-1))
	expectFault(t, "~"+full, 0)
	r := rand.New(rand.NewSource(33))
	for nodes := impl.MaxNodes + 1; nodes < impl.MaxNodes+30; nodes++ {
		for range 20 {
			s := written(randomTerm(r, nodes))
			expectFault(t, s, 0)
			// A wrong byte is told, however many nodes there are ahead of it.
			expectFault(t, s+")", len(s))
			expectFault(t, s+"é", len(s))
			expectFault(t, "("+s, len(s)+1)
			expectFault(t, "("+s+"+007)", len(s)+2)
			expectFault(t, "("+s+"=a)", len(s)+2)
			expectFault(t, "(a+"+s, len(s)+3)
			expectFault(t, "("+s+"+a)", 0)
			expectFault(t, "(a?"+s+":"+s+")", 0)
		}
	}
}

func TestTermTextOfTermsThatAreNotGood(t *testing.T) {
	for why, bad := range badTerms() {
		if s, ok := impl.TermText(bad); s != "" || ok {
			t.Errorf("%s: TermText = %q, %v, want the zero answer", why, s, ok)
		}
	}
	whole := joinedNodes(impl.OpAdd, variable(0), variable(1))
	if s, ok := impl.TermText(whole[:2]); s != "" || ok {
		t.Errorf("what lies behind the length is read: %q, %v", s, ok)
	}
}

func TestTextsLeaveTermsAsTheyAre(t *testing.T) {
	r := rand.New(rand.NewSource(34))
	for range 500 {
		term := withTail(randomTerm(r, 1+r.Intn(impl.MaxNodes)))
		kept := slices.Clone(term[:cap(term)])
		s, _ := impl.TermText(term)
		first, _, _ := impl.ReadTerm(s)
		second, _, _ := impl.ReadTerm(s)
		spoil(first)
		if !slices.Equal(term[:cap(term)], kept) {
			t.Fatalf("a term was changed, or is shared with an answer: %v, was %v", term, kept[:len(term)])
		}
		if !slices.Equal(second, term) {
			t.Fatalf("two answers share memory: %v, want %v", second, term)
		}
		expectRead(t, s, term)
	}
}
