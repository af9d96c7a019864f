package tests

import (
	"math"
	"math/rand"
	"slices"
	"strings"
	"testing"

	"loop.example/g00694/impl"
)

// The axioms and the shipped rules as the chapter writes them.
var axiomTexts = []string{
	"(1?a:b)=>a", "(0?a:b)=>b", "((a==0)?b:c)=>(a?c:b)", "(a==b)=>(b==a)", "(a/1)=>a", "(a/-1)=>~a",
	"((a-b)==0)=>(a==b)", "(a==b)=>((a-b)==0)", "((a?1:0)?b:c)=>(a?b:c)", "((a<b)?1:0)=>(a<b)",
	"((a==b)?1:0)=>(a==b)", "(a<<b)=>(a*(1<<b))",
}

var shippedTexts = []string{
	"(a+b)=>(b+a)", "((a+b)+c)=>(a+(b+c))", "(a*b)=>(b*a)", "((a*b)*c)=>(a*(b*c))", "(a+0)=>a", "(a*1)=>a",
	"(a-b)=>(a+~b)", "~~a=>a", "(a*2)=>(a<<1)", "(a+a)=>(a*2)", "((a*c)+(b*c))=>((a+b)*c)", "(a*-1)=>~a",
	"(a-0)=>a", "(1?a:b)=>a", "(0?a:b)=>b", "(a/1)=>a",
}

// ruleOf reads the sides one by one, so that the tests do not lean on ReadRule.
func ruleOf(t *testing.T, s string) impl.Rule {
	t.Helper()
	left, right, found := strings.Cut(s, "=>")
	if !found {
		t.Fatal("no rule:", s)
	}
	return impl.Rule{Left: ringTerm(t, left), Right: ringTerm(t, right)}
}

func sameSides(r, s impl.Rule) bool {
	return slices.Equal(r.Left, s.Left) && slices.Equal(r.Right, s.Right)
}

func writtenRule(r impl.Rule) string {
	return written(r.Left) + "=>" + written(r.Right)
}

func turned(r impl.Rule) impl.Rule {
	return impl.Rule{Left: r.Right, Right: r.Left}
}

// renamedRule has for each variable v the variable by[v].
func renamedRule(r impl.Rule, by []int) impl.Rule {
	out := impl.Rule{Left: slices.Clone(r.Left), Right: slices.Clone(r.Right)}
	for _, side := range [][]impl.Node{out.Left, out.Right} {
		for k, n := range side {
			if n.Op == impl.OpVar {
				side[k].N = int64(by[n.N])
			}
		}
	}
	return out
}

// allNamings has all lists of MaxVars variables.
func allNamings() [][]int {
	all := [][]int{nil}
	for range impl.MaxVars {
		var longer [][]int
		for _, l := range all {
			for v := range impl.MaxVars {
				longer = append(longer, append(slices.Clone(l), v))
			}
		}
		all = longer
	}
	return all
}

// noTwoAlike keeps of the namings those that give no name twice.
func noTwoAlike(namings [][]int) [][]int {
	return slices.DeleteFunc(slices.Clone(namings), func(l []int) bool {
		for k, v := range l {
			if slices.Contains(l[:k], v) {
				return true
			}
		}
		return false
	})
}

var oneToOne = noTwoAlike(allNamings())

// sameByNamings tries all namings: a naming of some variables, no two alike, is a piece of one of all.
func sameByNamings(r, s impl.Rule) bool {
	return slices.ContainsFunc(oneToOne, func(by []int) bool { return sameSides(renamedRule(r, by), s) })
}

// checkedByTheWords looks for the codes one by one, with the models of the earlier layers.
func checkedByTheWords(t *testing.T, r impl.Rule) int {
	t.Helper()
	left, right := reckon(r.Left, len(r.Left)-1, fourValues).all, reckon(r.Right, len(r.Right)-1, fourValues).all
	if len(r.Left) == 1 && r.Left[0].Op == impl.OpVar {
		return 1
	}
	for v := range right {
		if right[v] && !left[v] {
			return 2
		}
	}
	for _, s := range axiomTexts {
		if sameByNamings(ruleOf(t, s), r) {
			return 0
		}
	}
	if !ringByTheWords(r.Left) || !ringByTheWords(r.Right) || left != right {
		return 3
	}
	p, first := wantPoly(r.Left)
	q, second := wantPoly(r.Right)
	if !first || !second || !samePoly(p, q) {
		return 4
	}
	return 0
}

func ringByTheWords(t []impl.Node) bool {
	for k, n := range t {
		if n.Op > impl.OpMul && n.Op != impl.OpShl || n.Op == impl.OpShl && t[k-1].Op != impl.OpNum {
			return false
		}
	}
	return true
}

func expectCode(t *testing.T, r impl.Rule, want int) {
	t.Helper()
	if code, ok := impl.CheckRule(r); code != want || !ok {
		t.Errorf("CheckRule(%s) = %d, %v, want %d, true", writtenRule(r), code, ok, want)
	}
}

func expectCodeOf(t *testing.T, s string, want int) {
	t.Helper()
	expectCode(t, ruleOf(t, s), want)
}

func expectSame(t *testing.T, r, s impl.Rule, want bool) {
	t.Helper()
	if is, ok := impl.SameRule(r, s); is != want || !ok {
		t.Errorf("SameRule(%s, %s) = %v, %v, want %v, true", writtenRule(r), writtenRule(s), is, ok, want)
	}
}

func expectHolds(t *testing.T, r impl.Rule, env []int64, want bool) {
	t.Helper()
	if is, ok := impl.HoldsAt(r, env); is != want || !ok {
		t.Errorf("HoldsAt(%s, %v) = %v, %v, want %v, true", writtenRule(r), env, is, ok, want)
	}
}

func expectNoRule(t *testing.T, s string, place int) {
	t.Helper()
	if r, at, ok := impl.ReadRule(s); ok || at != place || len(r.Left) != 0 || len(r.Right) != 0 {
		t.Errorf("ReadRule(%q) = %v, %d, %v, want none, %d, false", s, r, at, ok, place)
	}
}

func expectRule(t *testing.T, s string, want impl.Rule) {
	t.Helper()
	if r, at, ok := impl.ReadRule(s); !ok || at != len(s) || !sameSides(r, want) {
		t.Errorf("ReadRule(%q) = %v, %d, %v, want %v, %d, true", s, r, at, ok, want, len(s))
	}
}

// expectNotARule asks all functions of a rule that is not good.
func expectNotARule(t *testing.T, why string, r impl.Rule) {
	t.Helper()
	good := impl.Rule{Left: variable(0), Right: variable(0)}
	if impl.GoodRule(r) {
		t.Errorf("%s: %v is told to be good", why, r)
	}
	if code, ok := impl.CheckRule(r); code != 0 || ok {
		t.Errorf("%s: CheckRule(%v) = %d, %v", why, r, code, ok)
	}
	for _, pair := range [][2]impl.Rule{{r, good}, {good, r}, {r, r}} {
		if is, ok := impl.SameRule(pair[0], pair[1]); is || ok {
			t.Errorf("%s: SameRule(%v) = %v, %v", why, pair, is, ok)
		}
	}
	if s, ok := impl.RuleText(r); s != "" || ok {
		t.Errorf("%s: RuleText(%v) = %q, %v", why, r, s, ok)
	}
	if is, ok := impl.HoldsAt(r, fourValues); is || ok {
		t.Errorf("%s: HoldsAt(%v) = %v, %v", why, r, is, ok)
	}
}

// badRules have a side, or both, that is no pattern.
func badRules() map[string]impl.Rule {
	bad := map[string]impl.Rule{
		"empty":                {},
		"a left too long":      {Left: negated(variable(0), impl.MaxPattern), Right: variable(0)},
		"a right too long":     {Left: variable(0), Right: negated(variable(0), impl.MaxPattern)},
		"both too long":        {Left: negated(variable(0), impl.MaxPattern), Right: negated(variable(0), impl.MaxPattern)},
		"a left of MaxNodes":   {Left: negated(variable(0), impl.MaxNodes-1), Right: variable(0)},
		"a right of MaxNodes":  {Left: variable(0), Right: negated(variable(0), impl.MaxNodes-1)},
		"good only if joined":  {Left: slices.Concat(variable(0), variable(1)), Right: []impl.Node{{Op: impl.OpAdd}}},
		"good only if swapped": {Left: []impl.Node{{Op: impl.OpNeg}}, Right: variable(0)},
	}
	for why, term := range badTerms() {
		bad["left: "+why] = impl.Rule{Left: term, Right: variable(0)}
		bad["right: "+why] = impl.Rule{Left: variable(0), Right: term}
		bad["both: "+why] = impl.Rule{Left: term, Right: term}
	}
	return bad
}

// randomRule is of few variables and numbers, so that many are nearly right.
func randomRule(r *rand.Rand) impl.Rule {
	side := func() []impl.Node {
		if r.Intn(2) == 0 {
			return fewLeaves(r, randomTerm(r, 1+r.Intn(impl.MaxPattern)))
		}
		return fewLeaves(r, randomRing(r, 1+r.Intn(impl.MaxPattern)))
	}
	return impl.Rule{Left: side(), Right: side()}
}

func fewLeaves(r *rand.Rand, t []impl.Node) []impl.Node {
	for k, n := range t {
		if n.Op == impl.OpNum {
			t[k].N = int64(r.Intn(4)) - 1
		}
		if n.Op == impl.OpVar {
			t[k].N = int64(r.Intn(3))
		}
	}
	return t
}

// likeOneTold is an axiom or a shipped rule with up to two nodes' numbers or ops changed, and perhaps renamed or turned round.
func likeOneTold(t *testing.T, r *rand.Rand) impl.Rule {
	t.Helper()
	texts := slices.Concat(axiomTexts, shippedTexts)
	rule := ruleOf(t, texts[r.Intn(len(texts))])
	if r.Intn(2) == 0 {
		all := allNamings()
		rule = renamedRule(rule, all[r.Intn(len(all))])
	}
	for range r.Intn(3) {
		side := rule.Left
		if r.Intn(2) == 0 {
			side = rule.Right
		}
		k := r.Intn(len(side))
		switch arity, _ := impl.ArityOf(side[k].Op); {
		case side[k].Op == impl.OpNum:
			side[k].N = int64(r.Intn(4)) - 1
		case side[k].Op == impl.OpVar:
			side[k].N = int64(r.Intn(impl.MaxVars))
		case arity == 2:
			side[k].Op = impl.OpAdd + r.Intn(impl.OpLess-impl.OpAdd+1)
		}
	}
	if r.Intn(4) == 0 {
		rule = turned(rule)
	}
	return rule
}

func TestGoodRule(t *testing.T) {
	if impl.MaxRules != 20 {
		t.Fatal("limit", impl.MaxRules)
	}
	for left := 1; left <= impl.MaxPattern; left++ {
		for right := 1; right <= impl.MaxPattern; right++ {
			r := impl.Rule{Left: negated(variable(3), left-1), Right: negated(num(math.MinInt64), right-1)}
			if !impl.GoodRule(r) {
				t.Errorf("%d and %d nodes are told not to be good", left, right)
			}
		}
	}
	for why, r := range badRules() {
		expectNotARule(t, why, r)
	}
	r := rand.New(rand.NewSource(80))
	for range 3000 {
		rule := impl.Rule{Left: randomTerm(r, 1+r.Intn(10)), Right: randomTerm(r, 1+r.Intn(10))}
		want := len(rule.Left) <= impl.MaxPattern && len(rule.Right) <= impl.MaxPattern
		if impl.GoodRule(rule) != want {
			t.Errorf("GoodRule(%s) is not %v", writtenRule(rule), want)
		}
	}
}

func TestTheAxioms(t *testing.T) {
	for k, s := range axiomTexts {
		axiom, ok := impl.AxiomAt(k)
		if !ok || !sameSides(axiom, ruleOf(t, s)) || !impl.GoodRule(axiom) {
			t.Errorf("AxiomAt(%d) = %v, %v, want that of %s", k, axiom, ok, s)
		}
		if text, ok := impl.RuleText(axiom); text != s || !ok {
			t.Errorf("axiom %d is written %q, %v, want %q", k, text, ok, s)
		}
	}
	last, _ := impl.AxiomAt(11)
	byHand := impl.Rule{
		Left:  joinedNodes(impl.OpShl, variable(0), variable(1)),
		Right: joinedNodes(impl.OpMul, variable(0), joinedNodes(impl.OpShl, num(1), variable(1))),
	}
	if !sameSides(last, byHand) {
		t.Errorf("axiom 11 is %v, want %v", last, byHand)
	}
	for _, k := range []int{math.MinInt, -12, -2, -1, 12, 13, 23, 24, math.MaxInt} {
		if axiom, ok := impl.AxiomAt(k); ok || len(axiom.Left) != 0 || len(axiom.Right) != 0 {
			t.Errorf("AxiomAt(%d) = %v, %v, want the zero answer", k, axiom, ok)
		}
	}
}

func TestAxiomsUnderOtherNames(t *testing.T) {
	for k, s := range axiomTexts {
		axiom := ruleOf(t, s)
		for _, by := range allNamings() {
			other := renamedRule(axiom, by)
			vars, _ := impl.VarsIn(axiom.Left)
			kept, _ := impl.VarsIn(other.Left)
			// A naming that makes two of its variables one makes another rule.
			isOne := len(vars) == len(kept)
			expectSame(t, axiom, other, isOne)
			expectSame(t, other, axiom, isOne)
			if isOne {
				expectCode(t, other, 0)
			} else if code, ok := impl.CheckRule(other); code != 3 || !ok {
				t.Errorf("axiom %d with two names made one, %s: %d, %v, want 3, true", k, writtenRule(other), code, ok)
			}
		}
	}
}

func TestAxiomsTurnedRound(t *testing.T) {
	want := []int{1, 1, 3, 0, 1, 3, 0, 0, 3, 3, 3, 3}
	for k, s := range axiomTexts {
		expectCode(t, turned(ruleOf(t, s)), want[k])
	}
	expectSame(t, turned(ruleOf(t, axiomTexts[6])), ruleOf(t, axiomTexts[7]), true)
	expectSame(t, turned(ruleOf(t, axiomTexts[3])), ruleOf(t, axiomTexts[3]), true)
}

func TestNearlyAxioms(t *testing.T) {
	for s, want := range map[string]int{
		"(2?a:b)=>a":               3,
		"(-1?a:b)=>a":              3,
		"(1?a:b)=>b":               3,
		"(0?a:b)=>a":               3,
		"(1?a:b)=>c":               2,
		"(1?a:a)=>a":               3,
		"(c?a:a)=>a":               3,
		"((0==a)?b:c)=>(a?c:b)":    3,
		"((a==0)?b:c)=>(a?b:c)":    3,
		"((a==1)?b:c)=>(a?c:b)":    3,
		"(a==b)=>(a==b)":           3,
		"(a==a)=>(a==a)":           3,
		"(a==a)=>1":                3,
		"(a==b)=>(b==b)":           3,
		"(a<b)=>(b<a)":             3,
		"(a/2)=>a":                 3,
		"(a/0)=>a":                 3,
		"(a/-1)=>a":                3,
		"(a/1)=>~a":                3,
		"(1/a)=>a":                 3,
		"(a/-1)=>(a*-1)":           3,
		"((a-b)==0)=>(b==a)":       3,
		"((a-b)==1)=>(a==b)":       3,
		"((a+b)==0)=>(a==b)":       3,
		"(a==b)=>((b-a)==0)":       3,
		"((a?1:0)?b:c)=>(a?c:b)":   3,
		"((a?0:1)?b:c)=>(a?b:c)":   3,
		"((a?2:0)?b:c)=>(a?b:c)":   3,
		"((a<b)?1:0)=>(b<a)":       3,
		"((a<b)?0:1)=>(a<b)":       3,
		"((a<b)?1:0)=>(a==b)":      3,
		"((a==b)?1:0)=>(a<b)":      3,
		"((a==b)?1:0)=>(b==a)":     3,
		"(a<<b)=>(b*(1<<a))":       3,
		"(a<<b)=>(a*(2<<b))":       3,
		"(a<<b)=>(a<<b)":           3,
		"(a<<b)=>((1<<b)*a)":       3,
		"(a<<1)=>(a*(1<<1))":       0,
		"(1<<b)=>(1*(1<<b))":       3,
		"(d<<c)=>(d*(1<<c))":       0,
		"((b?1:0)?d:a)=>(b?d:a)":   0,
		"((c==0)?a:d)=>(c?d:a)":    0,
		"(d/-1)=>~d":               0,
		"((d-a)==0)=>(d==a)":       0,
		"((c<a)?1:0)=>(c<a)":       0,
		"(~a/1)=>~a":               3,
		"(1?a:0)=>a":               3,
		"(1?a:b)=>(a+0)":           3,
		"((a+0)/1)=>a":             3,
		"((a?1:0)?b:b)=>(a?b:b)":   3,
		"((1?a:b)+0)=>(a+0)":       3,
		"((a-b)==0)=>((a-b)==0)":   3,
		"((a==b)?1:0)=>((a-b)==0)": 3,
	} {
		expectCodeOf(t, s, want)
	}
}

func TestCheckRule(t *testing.T) {
	for s, want := range map[string]int{
		"a=>a":                          1,
		"d=>(d+0)":                      1,
		"b=>~~b":                        1,
		"a=>1":                          1,
		"~a=>~a":                        0,
		"0=>0":                          0,
		"2=>(1+1)":                      0,
		"(1+1)=>2":                      0,
		"2=>3":                          4,
		"0=>(1<<-1)":                    4,
		"-9223372036854775808=>(1<<-1)": 0,
		"1=>(1<<64)":                    0,
		"1=>a":                          2,
		"0=>(a*0)":                      2,
		"(a+1)=>b":                      2,
		"(a+b)=>(a+c)":                  2,
		"(a+b)=>(c+d)":                  2,
		"(a+b)=>((a+b)+(c-c))":          2,
		"(a-a)=>0":                      3,
		"(a*0)=>0":                      3,
		"((a+b)-b)=>a":                  3,
		"(a*(b-b))=>(a-a)":              3,
		"(a*(b-b))=>(b-b)":              3,
		"(a*(b-b))=>(b*(a-a))":          0,
		"((a-a)+b)=>(b+(a*0))":          0,
		"(a/a)=>1":                      3,
		"(a/b)=>(a/b)":                  3,
		"(a<b)=>(a<b)":                  3,
		"(a?b:c)=>(a?b:c)":              3,
		"(a<<b)=>(a<<c)":                2,
		"(a<<(1+1))=>(a*4)":             3,
		"(a*4)=>(a<<(1+1))":             3,
		"(a<<2)=>(a*4)":                 0,
		"(a<<66)=>(a*4)":                0,
		"(a<<-62)=>(a*4)":               0,
		"(a<<63)=>(a*4)":                4,
		"(a+b)=>(a*b)":                  4,
		"(a-b)=>(b-a)":                  4,
		"(a+a)=>(a*a)":                  4,
		"(a*2)=>(a*3)":                  4,
		"(a+1)=>(a+2)":                  4,
		"~(a-b)=>(b-a)":                 0,
		"((a+b)*(a-b))=>((a*a)-(b*b))":  0,
		"((a+b)*(c+d))=>((d+c)*(b+a))":  0,
		"((a+b)*(c+d))=>((a*c)+(b*d))":  4,
		"((a*a)*(a*a))=>(a*(a*(a*a)))":  0,
		"((a*a)*(a*a))=>((a*a)+(a*a))":  4,
		"((a*b)*(c*d))=>((d*c)*(b*a))":  0,
		"~~~~~~a=>(a*1)":                0,
		"~~~~~~a=>~~~~~~a":              0,
		"~~~~~~a=>~~~~~a":               4,
		"(a+9223372036854775807)=>(a--9223372036854775807)": 0,
		"(a-1)=>(a+-1)": 0,
		// Such sides come to the same at all numbers, but are not one sum of products.
		"((a*a)<<63)=>(a<<63)":         4,
		"((a*(a+1))<<63)=>(0*a)":       4,
		"(a*-9223372036854775808)=>~a": 4,
	} {
		expectCodeOf(t, s, want)
	}
}

func TestTheFirstCodeIsTold(t *testing.T) {
	for s, want := range map[string]int{
		"a=>b":              1,
		"a=>(a/1)":          1,
		"a=>(b/0)":          1,
		"a=>(a+1)":          1,
		"a=>(1?a:b)":        1,
		"a=>0":              1,
		"(a/1)=>b":          2,
		"(a/1)=>(a+b)":      2,
		"(1?a:b)=>(1?a:c)":  2,
		"(a*2)=>(b*3)":      2,
		"1=>(a<b)":          2,
		"(a*b)=>a":          3,
		"(a*b)=>(a+1)":      3,
		"(a<b)=>(a+b)":      3,
		"(a+b)=>(b==a)":     3,
		"(a/b)=>a":          3,
		"(a+b)=>(a<<b)":     3,
		"(0?a:b)=>(a+1)":    3,
		"((a+b)-a)=>(b/1)":  3,
		"((a+b)-(a-b))=>2":  3,
		"((a-a)+1)=>(a==a)": 3,
	} {
		expectCodeOf(t, s, want)
	}
}

func TestCheckRuleAsTheModelDoes(t *testing.T) {
	r := rand.New(rand.NewSource(81))
	var told [5]int
	for k := range 30000 {
		rule := randomRule(r)
		if k%2 == 0 {
			rule = likeOneTold(t, r)
		}
		want := checkedByTheWords(t, rule)
		expectCode(t, rule, want)
		told[want]++
	}
	for code, count := range told {
		if count < 300 {
			t.Errorf("code %d comes only %d times", code, count)
		}
	}
}

// No pattern is great enough to grow past the bounds of chapter 4: the terms
// that do are not of a rule that is good.
func TestPowersAndProductsOfRules(t *testing.T) {
	power := variable(0)
	for n := 2; n <= impl.MaxPower+1; n++ {
		power = joinedNodes(impl.OpMul, power, variable(0))
		r := impl.Rule{Left: power, Right: slices.Clone(power)}
		if len(power) <= impl.MaxPattern {
			expectCode(t, r, 0)
		} else {
			expectNotARule(t, "a power", r)
		}
	}
	sum := joinedNodes(impl.OpAdd, joinedNodes(impl.OpAdd, variable(0), variable(1)), joinedNodes(impl.OpAdd, variable(2), variable(3)))
	many := sum
	for range 4 {
		many = joinedNodes(impl.OpMul, many, sum)
	}
	if _, ok := impl.PolyOf(many); !impl.GoodTerm(many) || ok {
		t.Error("the sum is not too great")
	}
	expectNotARule(t, "many products", impl.Rule{Left: many, Right: many})
	r := rand.New(rand.NewSource(82))
	for range 5000 {
		pattern := randomRing(r, 1+r.Intn(impl.MaxPattern))
		if _, ok := impl.PolyOf(pattern); !ok {
			t.Errorf("%s grows past the bounds", written(pattern))
		}
		if pattern[0].Op != impl.OpVar || len(pattern) > 1 {
			expectCode(t, impl.Rule{Left: pattern, Right: slices.Clone(pattern)}, 0)
		}
	}
}

func TestRulesOfMaxPatternNodes(t *testing.T) {
	seven := ringTerm(t, "((a+b)*(c-d))")
	other := ringTerm(t, "((c-d)*(b+a))")
	if len(seven) != impl.MaxPattern || len(other) != impl.MaxPattern {
		t.Fatal("not of MaxPattern nodes")
	}
	rule := impl.Rule{Left: seven, Right: other}
	expectCode(t, rule, 0)
	expectSame(t, rule, rule, true)
	expectRule(t, "((a+b)*(c-d))=>((c-d)*(b+a))", rule)
	expectHolds(t, rule, []int64{1, 2, 3, 4}, true)
	expectNotARule(t, "a node more at the left", impl.Rule{Left: negated(seven, 1), Right: other})
	expectNotARule(t, "a node more at the right", impl.Rule{Left: seven, Right: negated(other, 1)})
	expectNoRule(t, "~((a+b)*(c-d))=>((c-d)*(b+a))", 0)
	expectNoRule(t, "((a+b)*(c-d))=>~((c-d)*(b+a))", len("((a+b)*(c-d))=>"))
}

func TestShippedRules(t *testing.T) {
	rules := impl.ShippedRules()
	if len(rules) != len(shippedTexts) || len(rules) > impl.MaxRules {
		t.Fatalf("%d rules, want %d", len(rules), len(shippedTexts))
	}
	for k, s := range shippedTexts {
		if !sameSides(rules[k], ruleOf(t, s)) {
			t.Errorf("rule %d is %v, want that of %s", k, rules[k], s)
		}
		expectCode(t, rules[k], 0)
		if text, ok := impl.RuleText(rules[k]); text != s || !ok {
			t.Errorf("rule %d is written %q, %v, want %q", k, text, ok, s)
		}
	}
	for k, axiom := range []int{0, 1, 4} {
		if a, _ := impl.AxiomAt(axiom); !sameSides(a, rules[13+k]) {
			t.Errorf("rule %d is not axiom %d", 13+k, axiom)
		}
	}
}

func TestSameRule(t *testing.T) {
	for _, x := range []struct {
		first, second string
		want          bool
	}{
		{"(a+b)=>(b+a)", "(a+b)=>(b+a)", true},
		{"(a+b)=>(b+a)", "(b+a)=>(a+b)", true},
		{"(a+b)=>(b+a)", "(d+c)=>(c+d)", true},
		{"(a+b)=>(b+a)", "(d+c)=>(d+c)", false},
		{"(a+b)=>(b+a)", "(a+a)=>(a+a)", false},
		{"(a+a)=>(a+a)", "(a+b)=>(b+a)", false},
		// Side by side there is a naming, but not one for both.
		{"(a+b)=>a", "(b+a)=>a", false},
		{"(a+b)=>a", "(b+a)=>b", true},
		{"(a/1)=>a", "(b/1)=>a", false},
		{"(a/1)=>b", "(b/1)=>a", true},
		{"(a/1)=>b", "(b/1)=>b", false},
		{"(a/1)=>b", "(c/1)=>d", true},
		{"~a=>~b", "~a=>~a", false},
		{"~a=>~a", "~a=>~b", false},
		{"((a+b)+c)=>((c+b)+a)", "((b+c)+a)=>((a+c)+b)", true},
		{"((a+b)+c)=>((c+b)+a)", "((b+c)+a)=>((c+a)+b)", false},
		{"((a+b)*(c+d))=>0", "((d+c)*(b+a))=>0", true},
		{"((a+b)*(c+d))=>0", "((a+b)*(c+c))=>0", false},
		{"((a+b)*(c+a))=>0", "((a+b)*(c+d))=>0", false},
		{"1=>1", "1=>1", true},
		{"1=>1", "1=>2", false},
		{"2=>1", "1=>2", false},
		{"(a+1)=>a", "(a+2)=>a", false},
		{"(a+1)=>a", "(b+1)=>b", true},
		{"(a+1)=>a", "(a-1)=>a", false},
		{"(a+0)=>a", "(0+a)=>a", false},
		{"(0+a)=>a", "(b+a)=>a", false},
		{"(a+0)=>a", "(a+a)=>a", false},
		{"0=>a", "a=>0", false},
		{"0=>0", "a=>a", false},
		{"a=>0", "b=>0", true},
		{"~a=>a", "~~a=>a", false},
		{"a=>~a", "a=>~~a", false},
		{"a=>a", "d=>d", true},
		{"a=>b", "d=>d", false},
		{"(a?b:c)=>d", "(d?c:b)=>a", true},
		{"(a?b:c)=>d", "(d?c:b)=>b", false},
	} {
		first, second := ruleOf(t, x.first), ruleOf(t, x.second)
		expectSame(t, first, second, x.want)
		expectSame(t, second, first, x.want)
	}
	for why, r := range badRules() {
		expectNotARule(t, why, r)
	}
}

func TestSameRuleAsTheModelDoes(t *testing.T) {
	r := rand.New(rand.NewSource(83))
	namings := allNamings()
	same := 0
	for k := range 12000 {
		rule := randomRule(r)
		other := renamedRule(rule, namings[r.Intn(len(namings))])
		if k%4 == 0 {
			// A variable of one place alone is changed, so that one naming does not do.
			side := other.Left
			if r.Intn(2) == 0 {
				side = other.Right
			}
			if at := r.Intn(len(side)); side[at].Op == impl.OpVar {
				side[at].N = int64(r.Intn(impl.MaxVars))
			}
		}
		want := sameByNamings(rule, other)
		expectSame(t, rule, other, want)
		if want {
			same++
		}
	}
	if same < 1000 || same > 11000 {
		t.Error("the rules are of one kind:", same)
	}
}

func TestHoldsAt(t *testing.T) {
	for _, x := range []struct {
		rule string
		env  []int64
		want bool
	}{
		{"(a/a)=>1", []int64{5, 0, 0, 0}, true},
		{"(a/a)=>1", []int64{0, 0, 0, 0}, false},
		{"1=>(a/a)", []int64{0, 0, 0, 0}, false},
		{"(a/b)=>(c/d)", []int64{1, 0, 2, 0}, true},
		{"(a/b)=>(c/d)", []int64{1, 0, 0, 1}, false},
		{"(a/b)=>(c/d)", []int64{0, 1, 1, 0}, false},
		{"(a/b)=>(c/d)", []int64{6, 3, 4, 2}, true},
		{"(a/b)=>(c/d)", []int64{6, 3, 4, 1}, false},
		// What traps comes to 0, and so it is told, but 0 is not a trap.
		{"(a/0)=>0", []int64{1, 2, 3, 4}, false},
		{"0=>(a/0)", []int64{1, 2, 3, 4}, false},
		{"(a/0)=>(0/0)", []int64{1, 2, 3, 4}, true},
		{"(1?a:(a/0))=>a", []int64{7, 0, 0, 0}, true},
		{"(0?a:(a/0))=>a", []int64{7, 0, 0, 0}, false},
		{"(0?a:(a/0))=>(b/0)", []int64{7, 0, 0, 0}, true},
		{"a=>b", []int64{3, 3, 1, 2}, true},
		{"a=>b", []int64{3, 4, 3, 3}, false},
		{"c=>d", []int64{1, 2, -9, -9}, true},
		{"c=>d", []int64{3, 3, 0, -9}, false},
		{"(a+1)=>-9223372036854775808", []int64{math.MaxInt64, 0, 0, 0}, true},
		{"((a*a)<<63)=>(a<<63)", []int64{3, 0, 0, 0}, true},
		{"1=>1", []int64{0, 0, 0, 0}, true},
		{"1=>2", []int64{0, 0, 0, 0}, false},
	} {
		expectHolds(t, ruleOf(t, x.rule), x.env, x.want)
	}
	r := rand.New(rand.NewSource(84))
	var told [2]int
	for range 10000 {
		rule, env := randomRule(r), randomEnv(r)
		left, right := reckon(rule.Left, len(rule.Left)-1, env), reckon(rule.Right, len(rule.Right)-1, env)
		want := left.traps && right.traps || !left.traps && !right.traps && left.n == right.n
		expectHolds(t, rule, env, want)
		if want {
			told[1]++
		} else {
			told[0]++
		}
	}
	if min(told[0], told[1]) < 500 {
		t.Error("the rules are of one kind:", told)
	}
}

func TestHoldsAtWithoutFourValues(t *testing.T) {
	for _, s := range []string{"1=>1", "a=>a", "(a+b)=>(b+a)", "d=>d"} {
		r := ruleOf(t, s)
		for _, count := range []int{0, 1, 2, 3, 5, 6, 1000} {
			if is, ok := impl.HoldsAt(r, make([]int64, count)); is || ok {
				t.Errorf("HoldsAt(%s) of %d values = %v, %v", s, count, is, ok)
			}
		}
		if is, ok := impl.HoldsAt(r, nil); is || ok {
			t.Errorf("HoldsAt(%s) of no values = %v, %v", s, is, ok)
		}
		if is, ok := impl.HoldsAt(r, []int64{1, 2, 3, 4, 5}[:3]); is || ok {
			t.Errorf("HoldsAt(%s) reads behind the length: %v, %v", s, is, ok)
		}
	}
}

// expectRuleHolds puts terms for a rule's variables and reckons both sides.
func expectRuleHolds(t *testing.T, rule impl.Rule, by [][]impl.Node, env []int64) {
	t.Helper()
	left, one := impl.PutAll(rule.Left, by)
	right, other := impl.PutAll(rule.Right, by)
	if !one || !other {
		return
	}
	a, b := reckon(left, len(left)-1, env), reckon(right, len(right)-1, env)
	if a.n != b.n || a.traps != b.traps {
		t.Errorf("%s is told to be right, but not with %v at %v", writtenRule(rule), by, env)
	}
}

func randomTermsToPut(r *rand.Rand) [][]impl.Node {
	by := make([][]impl.Node, impl.MaxVars)
	for v := range by {
		by[v] = randomTerm(r, 1+r.Intn(6))
		if r.Intn(4) == 0 {
			by[v] = joinedNodes(impl.OpDiv, by[v], num(0))
		}
	}
	return by
}

// rightRules are such as CheckRule tells to be right: those told, with any
// names, and pairs of small terms that are one sum of products.
func rightRules(t *testing.T, r *rand.Rand) []impl.Rule {
	t.Helper()
	var all []impl.Rule
	for _, s := range slices.Concat(axiomTexts, shippedTexts) {
		for _, by := range allNamings() {
			all = append(all, renamedRule(ruleOf(t, s), by))
		}
	}
	known := map[string][]impl.Node{}
	for range 6000 {
		side := fewLeaves(r, randomRing(r, 1+r.Intn(5)))
		p, _ := impl.PolyOf(side)
		one, _ := impl.TermOf(p)
		if other := known[written(one)]; other != nil {
			all = append(all, impl.Rule{Left: side, Right: other}, impl.Rule{Left: other, Right: side})
		}
		known[written(one)] = side
	}
	return slices.DeleteFunc(all, func(rule impl.Rule) bool {
		code, ok := impl.CheckRule(rule)
		return code != 0 || !ok
	})
}

func TestARightRuleHoldsWhateverStandsForItsVariables(t *testing.T) {
	r := rand.New(rand.NewSource(85))
	rules := rightRules(t, r)
	if len(rules) < 1000 {
		t.Fatal("only", len(rules), "rules are right")
	}
	for _, rule := range rules {
		for range 8 {
			expectHolds(t, rule, randomEnv(r), true)
			expectRuleHolds(t, rule, randomTermsToPut(r), randomEnv(r))
		}
	}
}

func TestRulesLikeThoseToldHoldWhereTheyAreRight(t *testing.T) {
	r := rand.New(rand.NewSource(86))
	right := 0
	for range 6000 {
		rule := likeOneTold(t, r)
		if code, ok := impl.CheckRule(rule); code != 0 || !ok {
			continue
		}
		right++
		for range 5 {
			expectRuleHolds(t, rule, randomTermsToPut(r), randomEnv(r))
		}
	}
	if right < 1000 {
		t.Error("only", right, "rules are right")
	}
}

// A side that lacks a variable would not trap where the other does.
func TestARuleThatDropsAVariableIsNotTaken(t *testing.T) {
	trap := ringTerm(t, "(1/0)")
	for _, s := range []string{"(a-a)=>0", "(a*0)=>0", "((a+b)-b)=>a", "(a*(b-b))=>(a-a)"} {
		rule := ruleOf(t, s)
		expectCode(t, rule, 3)
		left, _ := impl.PutAll(rule.Left, [][]impl.Node{trap, trap, trap, trap})
		expectEval(t, left, fourValues, 0, true)
		expectHolds(t, rule, fourValues, true)
	}
}

func TestRulesAreReadBackFromTheirTexts(t *testing.T) {
	r := rand.New(rand.NewSource(87))
	for range 8000 {
		rule := impl.Rule{Left: randomTerm(r, 1+r.Intn(impl.MaxPattern)), Right: randomTerm(r, 1+r.Intn(impl.MaxPattern))}
		s, ok := impl.RuleText(rule)
		if s != writtenRule(rule) || !ok {
			t.Errorf("RuleText(%v) = %q, %v, want %q, true", rule, s, ok, writtenRule(rule))
		}
		expectRule(t, s, rule)
	}
	longest := "((-9223372036854775808<<-9223372036854775808)==(-9223372036854775808<<-9223372036854775808))"
	side := ringTerm(t, longest)
	expectRule(t, longest+"=>"+longest, impl.Rule{Left: side, Right: side})
}

func TestTextsThatAreNoRules(t *testing.T) {
	for s, place := range map[string]int{
		"":                           0,
		"a":                          1,
		"(a+b)":                      5,
		"=":                          1,
		">":                          1,
		"a=b":                        3,
		"a>b":                        3,
		"a= >b":                      5,
		"a>=b":                       4,
		"a->b":                       4,
		"(a==b)":                     6,
		"=>":                         0,
		"=>a":                        0,
		"a=>":                        3,
		"(a+b)=>":                    7,
		"=>=>":                       0,
		"a=>=>":                      3,
		"a=>=>b":                     3,
		"a=>b=>c":                    4,
		"(a=>b)=>c":                  2,
		"a=>(b=>c)":                  6,
		"(a==>b)":                    3,
		"(a==>b)=>c":                 3,
		"a==>b":                      1,
		"a=>>b":                      3,
		" a=>b":                      0,
		"a =>b":                      1,
		"a=> b":                      3,
		"a=>b ":                      4,
		"a=>b\n":                     4,
		"( a+b)=>b":                  1,
		"a=>(a+ b)":                  6,
		"(a=>b":                      2,
		"(a+=>b":                     3,
		"a=>(b":                      5,
		"a=>(b+":                     6,
		"e=>a":                       0,
		"a=>e":                       3,
		"(a+e)=>e":                   3,
		"A=>a":                       0,
		"a=>00":                      3,
		"00=>a":                      0,
		"(a+01)=>(a+01)":             3,
		"a=>(a+01)":                  6,
		"a=>-":                       4,
		"-=>a":                       1,
		"a=>9999999999999999999999":  3,
		"a=>(1+9223372036854775808)": 6,
		"a)=>b":                      1,
		"a=>b)":                      4,
		"a=>(a?b)":                   7,
		"a=>(a?b:c":                  9,
		"(a=b)=>a":                   3,
		"a=>(a=b)":                   6,
		"\xff=>a":                    0,
		"a=>\xff":                    3,
		"a=>b\x00":                   4,
		"a⇒b":                        5,
		"é=>a":                       0,
		"a=>(a+é)":                   6,
	} {
		expectNoRule(t, s, place)
	}
}

// Where both sides are wrong the left one's place is told.
func TestTheLeftIsToldAheadOfTheRight(t *testing.T) {
	long := strings.Repeat("~", impl.MaxPattern) + "a"
	for s, place := range map[string]int{
		"(a=>(b":         2,
		"e=>e":           0,
		"(a*e)=>":        3,
		long + "=>":      0,
		long + "=>e":     0,
		"(a=>" + long:    2,
		"(a+e)=>" + long: 3,
	} {
		expectNoRule(t, s, place)
	}
}

func TestTextsOfSidesOfTooManyNodes(t *testing.T) {
	for _, nodes := range []int{1, 6, 7, 8, 9, 39, 40, 41, 42, 100, impl.MaxText, impl.MaxText + 1, 5000} {
		side := strings.Repeat("~", nodes-1) + "b"
		if nodes <= impl.MaxPattern {
			expectRule(t, side+"=>a", impl.Rule{Left: negated(variable(1), nodes-1), Right: variable(0)})
			expectRule(t, "a=>"+side, impl.Rule{Left: variable(0), Right: negated(variable(1), nodes-1)})
			continue
		}
		expectNoRule(t, side+"=>a", 0)
		expectNoRule(t, side+"=>"+side, 0)
		expectNoRule(t, "a=>"+side, 3)
		expectNoRule(t, "(a+b)=>"+side, 7)
	}
}

func TestTextsThatAreTooLong(t *testing.T) {
	for _, length := range []int{impl.MaxText - 1, impl.MaxText, impl.MaxText + 1, 3 * impl.MaxText} {
		open := strings.Repeat("(", length)
		end := length
		if length > impl.MaxText {
			// ReadTerm tells 0 of a side that is too long.
			end = 0
		}
		expectNoRule(t, open, length)
		expectNoRule(t, open+"=>a", end)
		expectNoRule(t, open+"=>"+open, end)
		expectNoRule(t, "a=>"+open, 3+end)
		expectNoRule(t, "(a+b)=>"+open, 7+end)
	}
	// Each side is short enough, but not both together.
	half := strings.Repeat("(", impl.MaxText)
	expectNoRule(t, half+"=>"+half, impl.MaxText)
	expectNoRule(t, strings.Repeat("x", 1<<20), 1<<20)
	expectNoRule(t, strings.Repeat("=", 1<<20)+">", 0)
	expectNoRule(t, strings.Repeat("=>", 1<<19), 0)
}

// ruleTold is the place and whether a text is one of a rule, by the model of ReadTerm.
func ruleTold(s string) (int, bool) {
	cut := strings.Index(s, "=>")
	if cut < 0 {
		return len(s), false
	}
	from := 0
	for _, side := range []string{s[:cut], s[cut+2:]} {
		at, is := toldOf(side)
		if term, _, _ := impl.ReadTerm(side); is && len(term) > impl.MaxPattern {
			at, is = 0, false
		}
		if !is {
			return from + at, false
		}
		from = cut + 2
	}
	return len(s), true
}

func expectRuleAsTold(t *testing.T, s string) bool {
	t.Helper()
	place, is := ruleTold(s)
	if !is {
		expectNoRule(t, s, place)
		return false
	}
	rule, at, ok := impl.ReadRule(s)
	if !ok || at != place || !impl.GoodRule(rule) || writtenRule(rule) != s {
		t.Errorf("ReadRule(%q) = %v, %d, %v, want a rule, %d, true", s, rule, at, ok, place)
	}
	return true
}

func TestRulesOfAnyPieces(t *testing.T) {
	r := rand.New(rand.NewSource(88))
	pieces := []string{"=>", "=>", "=", ">", "a", "b", "(", ")", "(a+b)", "~", "1", "-1", "?", ":", "<", "-", "(a==b)", " ", "0", "e", "(a?b:c)"}
	rules := 0
	for range 60000 {
		s := ""
		for range r.Intn(7) {
			s += pieces[r.Intn(len(pieces))]
		}
		if expectRuleAsTold(t, s) {
			rules++
		}
	}
	if rules < 100 {
		t.Error("only", rules, "texts are of rules")
	}
}

func TestEachByteAtEachPlaceOfARule(t *testing.T) {
	s := "((a-b)==0)=>(a==-12)"
	for at := range len(s) {
		for b := range 256 {
			expectRuleAsTold(t, s[:at]+string([]byte{byte(b)})+s[at+1:])
			expectRuleAsTold(t, s[:at]+string([]byte{byte(b)})+s[at:])
		}
		expectRuleAsTold(t, s[:at])
		expectRuleAsTold(t, s[at:])
		expectRuleAsTold(t, s[:at]+s[at+1:])
	}
}

func ruleWithTail(r impl.Rule) impl.Rule {
	return impl.Rule{Left: withTail(r.Left), Right: withTail(r.Right)}
}

func TestRulesThatAreHandedInStayAsTheyAre(t *testing.T) {
	var rules []impl.Rule
	for _, s := range slices.Concat(axiomTexts, shippedTexts, []string{"a=>b", "(a+1)=>b", "(a-a)=>0", "(a+b)=>(a*b)"}) {
		rules = append(rules, ruleOf(t, s))
	}
	for _, r := range badRules() {
		rules = append(rules, r)
	}
	for _, r := range rules {
		given, before := ruleWithTail(r), ruleWithTail(r)
		other, otherBefore := ruleWithTail(rules[0]), ruleWithTail(rules[0])
		env := withValuesBehind(fourValues)
		impl.GoodRule(given)
		impl.CheckRule(given)
		impl.SameRule(given, other)
		impl.SameRule(other, given)
		impl.SameRule(given, given)
		impl.RuleText(given)
		impl.HoldsAt(given, env)
		if !wholeRule(given, before) || !wholeRule(other, otherBefore) {
			t.Errorf("%v was changed to %v", before, given)
		}
		if !slices.Equal(env[:cap(env)], withValuesBehind(fourValues)[:cap(env)]) {
			t.Error("the values were changed:", env)
		}
	}
}

func withValuesBehind(values []int64) []int64 {
	whole := slices.Concat(values, []int64{71, 72, 73})
	return whole[:len(values):len(whole)]
}

func wholeRule(r, s impl.Rule) bool {
	return slices.Equal(r.Left[:cap(r.Left)], s.Left[:cap(s.Left)]) &&
		slices.Equal(r.Right[:cap(r.Right)], s.Right[:cap(s.Right)])
}

// expectRulesApart spoils one list after the other, with all that lies behind it, and looks at those that are left.
func expectRulesApart(t *testing.T, what string, rules []impl.Rule, want []string) {
	t.Helper()
	if len(rules) != len(want) {
		t.Fatalf("%s: %d rules, want %d", what, len(rules), len(want))
	}
	for k := range rules {
		spoil(rules[k].Left)
		if !slices.Equal(rules[k].Right, ruleOf(t, want[k]).Right) {
			t.Fatalf("%s: the right of %s shares memory with its left", what, want[k])
		}
		spoil(rules[k].Right)
		for later := k + 1; later < len(rules); later++ {
			if !sameSides(rules[later], ruleOf(t, want[later])) {
				t.Fatalf("%s: %s shares memory with %s", what, want[later], want[k])
			}
		}
	}
}

func TestRulesAreNewMemory(t *testing.T) {
	expectRulesApart(t, "ShippedRules", impl.ShippedRules(), shippedTexts)
	expectRulesApart(t, "ShippedRules again", impl.ShippedRules(), shippedTexts)
	first, second := impl.ShippedRules(), impl.ShippedRules()
	expectRulesApart(t, "ShippedRules twice", slices.Concat(first, second), slices.Concat(shippedTexts, shippedTexts))
	for k, s := range axiomTexts {
		one, _ := impl.AxiomAt(k)
		other, _ := impl.AxiomAt(k)
		expectRulesApart(t, "AxiomAt twice", []impl.Rule{one, other}, []string{s, s})
		if again, _ := impl.AxiomAt(k); !sameSides(again, ruleOf(t, s)) {
			t.Errorf("axiom %d is kept from call to call", k)
		}
		expectCodeOf(t, s, 0)
	}
	if kept := impl.ShippedRules(); !sameSides(kept[13], ruleOf(t, axiomTexts[0])) {
		t.Error("shipped rules share memory with axioms")
	}
	for _, s := range slices.Concat(shippedTexts, []string{"a=>a", "1=>1", "~~~~~~a=>~~~~~~a"}) {
		one, _, _ := impl.ReadRule(s)
		other, _, _ := impl.ReadRule(s)
		expectRulesApart(t, "ReadRule twice", []impl.Rule{one, other}, []string{s, s})
	}
	spare := impl.ShippedRules()
	_ = append(spare[:len(spare)-1], impl.Rule{})
	if again := impl.ShippedRules(); !sameSides(again[15], ruleOf(t, shippedTexts[15])) {
		t.Error("the list of shipped rules is kept from call to call")
	}
}

func TestRulesReadNothingBehindTheLength(t *testing.T) {
	whole := ringTerm(t, "~(a+b)")
	r := impl.Rule{Left: whole[:3], Right: whole[:3]}
	expectCode(t, r, 0)
	expectSame(t, r, r, true)
	if s, ok := impl.RuleText(r); s != "(a+b)=>(a+b)" || !ok {
		t.Errorf("RuleText reads behind the length: %q, %v", s, ok)
	}
	expectNotARule(t, "a piece of a term", impl.Rule{Left: whole[:2], Right: whole[:3]})
	expectNotARule(t, "a piece of a term", impl.Rule{Left: whole[:3], Right: whole[:2]})
}
