package tests

import (
	"math"
	"math/rand"
	"slices"
	"testing"

	"loop.example/g00694/impl"
)

func rulesOf(t *testing.T, texts ...string) []impl.Rule {
	t.Helper()
	var rules []impl.Rule
	for _, s := range texts {
		rules = append(rules, ruleOf(t, s))
	}
	return rules
}

// withTerms is the graph of some terms, one put behind the other.
func withTerms(t *testing.T, texts ...string) impl.EGraph {
	t.Helper()
	var g impl.EGraph
	for _, s := range texts {
		term := ringTerm(t, s)
		g, _ = putTermByTable(g, term, len(term)-1)
	}
	return g
}

// withNodes is a graph with more nodes behind, each a class of its own.
func withNodes(g impl.EGraph, nodes ...impl.ENode) impl.EGraph {
	for _, n := range nodes {
		g, _ = putByTable(g, n)
	}
	return g
}

// inParts is a graph whose parts are as told, and what follows of that.
func inParts(g impl.EGraph, parts ...int) impl.EGraph {
	return graphByTable(g.Nodes, parts)
}

// appliedByTable ties the class with what the Right makes, and closes that.
func appliedByTable(g impl.EGraph, r impl.Rule, f impl.Found) impl.EGraph {
	with, class := instByTable(g, r.Right, len(r.Right)-1, f.Bind)
	o := onenessOf(with.Parts)
	o.tie(f.Class, class)
	return graphByTable(with.Nodes, o.close().told())
}

func rightByTheWords(t *testing.T, rules []impl.Rule) []impl.Rule {
	t.Helper()
	var right []impl.Rule
	for _, r := range rules {
		if checkedByTheWords(t, r) == 0 {
			right = append(right, r)
		}
	}
	return right
}

// roundByTable is a round of rules that are right: it copies the graph for
// each match, and looks at what came of it.
func roundByTable(g impl.EGraph, right []impl.Rule, nodes int) (impl.EGraph, bool) {
	first := g
	for _, r := range right {
		for class, least := range first.Parts {
			if class != least {
				continue
			}
			for _, bind := range wantBinds(first, r.Left, class) {
				next := appliedByTable(g, r, foundNow(g, class, bind))
				if len(next.Nodes) > nodes {
					return g, false
				}
				g = next
			}
		}
	}
	return g, true
}

func foundNow(g impl.EGraph, class int, bind []int) impl.Found {
	f := impl.Found{Class: g.Parts[class], Bind: bindOf()}
	for v, k := range bind {
		if k >= 0 {
			f.Bind[v] = g.Parts[k]
		}
	}
	return f
}

func grownByTable(g impl.EGraph, right []impl.Rule, rounds, nodes int) (impl.EGraph, int, int) {
	if rounds == 0 {
		return g, 0, impl.GwRounds
	}
	for begun := 1; ; begun++ {
		next, whole := roundByTable(g, right, nodes)
		still := len(next.Nodes) == len(g.Nodes) && slices.Equal(next.Parts, g.Parts)
		g = next
		switch {
		case !whole:
			return g, begun, impl.GwNodes
		case still:
			return g, begun, impl.GwStill
		case begun == rounds:
			return g, begun, impl.GwRounds
		}
	}
}

func expectApplied(t *testing.T, g impl.EGraph, r impl.Rule, f impl.Found, want impl.EGraph) {
	t.Helper()
	got, ok := impl.ApplyRule(g, r, f)
	expectGraph(t, "ApplyRule "+writtenRule(r), got, ok, want)
}

func expectNotApplied(t *testing.T, what string, g impl.EGraph, r impl.Rule, f impl.Found) {
	t.Helper()
	got, ok := impl.ApplyRule(g, r, f)
	expectNoGraph(t, "ApplyRule, "+what, got, ok)
}

func expectRound(t *testing.T, what string, g impl.EGraph, rules []impl.Rule, nodes int, want impl.EGraph, wantWhole bool) {
	t.Helper()
	got, whole, ok := impl.RoundOf(g, rules, nodes)
	expectGraph(t, "RoundOf, "+what, got, ok, want)
	if whole != wantWhole {
		t.Errorf("RoundOf, %s: whole %v, want %v", what, whole, wantWhole)
	}
}

func expectGrown(t *testing.T, what string, g impl.EGraph, rules []impl.Rule, rounds, nodes int, want impl.EGraph, wantBegun, wantCode int) {
	t.Helper()
	got, begun, code, ok := impl.Saturate(g, rules, rounds, nodes)
	expectGraph(t, "Saturate, "+what, got, ok, want)
	if begun != wantBegun || code != wantCode {
		t.Errorf("Saturate, %s: %d rounds and code %d, want %d and %d", what, begun, code, wantBegun, wantCode)
	}
}

// expectNoGrowth asks for a round, and for rounds, that there are not.
func expectNoGrowth(t *testing.T, what string, g impl.EGraph, rules []impl.Rule, nodes int) {
	t.Helper()
	got, whole, ok := impl.RoundOf(g, rules, nodes)
	expectNoGraph(t, "RoundOf, "+what, got, ok)
	if whole {
		t.Errorf("RoundOf, %s: want no whole round", what)
	}
	for _, rounds := range []int{0, 1, impl.MaxRounds} {
		expectNotGrown(t, what, g, rules, rounds, nodes)
	}
}

func expectNotGrown(t *testing.T, what string, g impl.EGraph, rules []impl.Rule, rounds, nodes int) {
	t.Helper()
	got, begun, code, ok := impl.Saturate(g, rules, rounds, nodes)
	expectNoGraph(t, "Saturate, "+what, got, ok)
	if begun != 0 || code != 0 {
		t.Errorf("Saturate, %s: %d rounds and code %d, want 0 and 0", what, begun, code)
	}
}

func expectRightRules(t *testing.T, what string, rules []impl.Rule, want ...impl.Rule) {
	t.Helper()
	if got, ok := impl.RightRules(rules); !ok || !slices.EqualFunc(got, want, sameSides) {
		t.Errorf("RightRules, %s: got %v, %v, want %v, true", what, got, ok, want)
	}
}

func expectNoRightRules(t *testing.T, what string, rules []impl.Rule) {
	t.Helper()
	if got, ok := impl.RightRules(rules); ok || len(got) != 0 {
		t.Errorf("RightRules, %s: got %v, %v, want none, false", what, got, ok)
	}
}

func TestLimitsAndCodesOfGrowing(t *testing.T) {
	if impl.MaxRounds != 10 || impl.GwStill != 1 || impl.GwRounds != 2 || impl.GwNodes != 3 {
		t.Error(impl.MaxRounds, impl.GwStill, impl.GwRounds, impl.GwNodes)
	}
}

func TestRightRules(t *testing.T) {
	shipped := rulesOf(t, shippedTexts...)
	expectRightRules(t, "nil", nil)
	expectRightRules(t, "none", []impl.Rule{})
	expectRightRules(t, "those that are shipped", shipped, shipped...)
	expectRightRules(t, "one", shipped[6:7], shipped[6])
	expectRightRules(t, "the same ones again", []impl.Rule{shipped[3], shipped[1], shipped[3]}, shipped[3], shipped[1], shipped[3])
	wrong := rulesOf(t, "a=>a", "(a+1)=>b", "(a-a)=>0", "(a+b)=>(a*b)")
	for k, r := range wrong {
		expectCode(t, r, k+1)
		expectRightRules(t, "one that is not right", []impl.Rule{r})
		expectRightRules(t, "one that is not right ahead", []impl.Rule{r, shipped[0], shipped[2]}, shipped[0], shipped[2])
		expectRightRules(t, "one that is not right between", []impl.Rule{shipped[0], r, shipped[2]}, shipped[0], shipped[2])
		expectRightRules(t, "one that is not right behind", []impl.Rule{shipped[0], shipped[2], r}, shipped[0], shipped[2])
	}
	expectRightRules(t, "none that is right", wrong)
}

func TestMaxRulesAndOneMore(t *testing.T) {
	g := withTerms(t, "(a+0)")
	for _, s := range []string{"(a+0)=>a", "(a-a)=>0"} {
		rules := slices.Repeat(rulesOf(t, s), impl.MaxRules+1)
		most := rules[:impl.MaxRules]
		want, parts := most, []int{0, 1, 0}
		if checkedByTheWords(t, rules[0]) != 0 {
			want, parts = nil, []int{0, 1, 2}
		}
		expectRightRules(t, s, most, want...)
		expectRound(t, s, g, most, 3, inParts(g, parts...), true)
		for _, more := range [][]impl.Rule{rules, slices.Repeat(rules, 10)} {
			expectNoRightRules(t, s, more)
			expectNoGrowth(t, s, g, more, impl.MaxENodes)
		}
	}
}

func TestRulesThatAreNotGood(t *testing.T) {
	g := withTerms(t, "(a+0)")
	right := ruleOf(t, "(a+0)=>a")
	for why, r := range badRules() {
		for _, rules := range [][]impl.Rule{{r}, {r, right}, {right, r}, {right, r, right}, append(slices.Repeat([]impl.Rule{right}, impl.MaxRules-1), r)} {
			expectNoRightRules(t, why, rules)
			expectNoGrowth(t, why, g, rules, impl.MaxENodes)
		}
		for _, f := range []impl.Found{{Class: 2, Bind: bindOf(0)}, {Class: 0, Bind: bindOf(0, 0, 0, 0)}, {}} {
			expectNotApplied(t, why, g, r, f)
		}
	}
}

func TestApplyRule(t *testing.T) {
	g := withTerms(t, "(a+0)")
	at := impl.Found{Class: 2, Bind: bindOf(0)}
	both := impl.Found{Class: 2, Bind: bindOf(0, 1)}
	expectApplied(t, g, ruleOf(t, "(a+0)=>a"), at, inParts(g, 0, 1, 0))
	expectApplied(t, g, ruleOf(t, "(a+b)=>(b+a)"), both, inParts(withNodes(g, eOp(impl.OpAdd, 1, 0)), 0, 1, 2, 2))
	expectApplied(t, g, ruleOf(t, "(b+a)=>(a+b)"), impl.Found{Class: 2, Bind: bindOf(1, 0)}, inParts(withNodes(g, eOp(impl.OpAdd, 1, 0)), 0, 1, 2, 2))
	expectApplied(t, g, ruleOf(t, "(a+b)=>((b+7)*~b)"), both,
		inParts(withNodes(g, eNum(7), eOp(impl.OpAdd, 1, 3), eOp(impl.OpNeg, 1), eOp(impl.OpMul, 4, 5)), 0, 1, 2, 3, 4, 5, 2))
	// What the bind has for other variables is nothing to the rule.
	expectApplied(t, g, ruleOf(t, "(a+0)=>a"), impl.Found{Class: 2, Bind: bindOf(0, 2, 1, 2)}, inParts(g, 0, 1, 0))
	// A number is put where the rule says so, and found where it is there.
	expectApplied(t, withTerms(t, "2"), ruleOf(t, "2=>(1+1)"), impl.Found{Bind: bindOf()},
		impl.EGraph{Nodes: []impl.ENode{eNum(2), eNum(1), eOp(impl.OpAdd, 1, 1)}, Parts: []int{0, 1, 0}})
	expectApplied(t, withTerms(t, "(1+1)"), ruleOf(t, "(1+1)=>1"), impl.Found{Class: 1, Bind: bindOf()}, inParts(withTerms(t, "(1+1)"), 0, 0))
}

// Whether a rule is right is not asked where it is applied.
func TestApplyRuleOfRulesThatAreNotRight(t *testing.T) {
	g := withTerms(t, "(a+0)", "b")
	expectApplied(t, g, ruleOf(t, "(a+b)=>b"), impl.Found{Class: 2, Bind: bindOf(0, 1)}, inParts(g, 0, 1, 1, 3))
	expectApplied(t, g, ruleOf(t, "(a+0)=>c"), impl.Found{Class: 2, Bind: bindOf(0, -1, 3)}, inParts(g, 0, 1, 2, 2))
	expectApplied(t, g, ruleOf(t, "a=>b"), impl.Found{Class: 0, Bind: bindOf(0, 3)}, inParts(g, 0, 1, 2, 0))
	expectApplied(t, g, ruleOf(t, "a=>a"), impl.Found{Class: 3, Bind: bindOf(3)}, g)
	expectApplied(t, g, ruleOf(t, "d=>~d"), impl.Found{Class: 1, Bind: bindOf(-1, -1, -1, 1)}, inParts(withNodes(g, eOp(impl.OpNeg, 1)), 0, 1, 2, 3, 1))
	expectApplied(t, g, ruleOf(t, "(a+b)=>0"), impl.Found{Class: 2, Bind: bindOf(0, 1)}, inParts(g, 0, 1, 1, 3))
	expectNotApplied(t, "a variable with no class", g, ruleOf(t, "(a+0)=>c"), impl.Found{Class: 2, Bind: bindOf(0)})
	expectNotApplied(t, "a variable with no class", g, ruleOf(t, "(a+0)=>(a+c)"), impl.Found{Class: 2, Bind: bindOf(0, 1)})
	expectNotApplied(t, "a variable with no class", g, ruleOf(t, "0=>d"), impl.Found{Class: 1, Bind: bindOf(0, 0, 0)})
}

func TestApplyRuleWhoseRightIsThereAlready(t *testing.T) {
	g := withTerms(t, "(a+b)", "(b+a)", "~(a+b)", "~(b+a)")
	turn := ruleOf(t, "(a+b)=>(b+a)")
	once := inParts(g, 0, 1, 2, 2, 4, 4)
	expectApplied(t, g, turn, impl.Found{Class: 2, Bind: bindOf(0, 1)}, once)
	expectApplied(t, g, turn, impl.Found{Class: 3, Bind: bindOf(1, 0)}, once)
	expectApplied(t, once, turn, impl.Found{Class: 2, Bind: bindOf(0, 1)}, once)
	expectApplied(t, once, turn, impl.Found{Class: 2, Bind: bindOf(1, 0)}, once)
	twice := withTerms(t, "(a+a)")
	expectApplied(t, twice, turn, impl.Found{Class: 1, Bind: bindOf(0, 0)}, twice)
	full := manyNumbers(impl.MaxENodes)
	expectApplied(t, full, ruleOf(t, "3=>4"), impl.Found{Class: 3, Bind: bindOf()},
		inParts(full, append([]int{0, 1, 2, 3, 3}, aloneEach(impl.MaxENodes)[5:]...)...))
}

// The class becomes one with a part of its own node, and holds itself then.
func TestARuleThatMakesAClassHoldItself(t *testing.T) {
	g := withTerms(t, "~~(a+0)")
	nodes := []impl.ENode{eVar(0), eNum(0), eOp(impl.OpAdd, 0, 1), eOp(impl.OpNeg, 0), eOp(impl.OpNeg, 3)}
	itself := impl.EGraph{Nodes: nodes, Parts: []int{0, 1, 0, 3, 4}}
	expectApplied(t, g, ruleOf(t, "(a+0)=>a"), impl.Found{Class: 2, Bind: bindOf(0)}, itself)
	expectApplied(t, itself, ruleOf(t, "(a+0)=>a"), impl.Found{Class: 0, Bind: bindOf(0)}, itself)
	folded := impl.EGraph{Nodes: nodes, Parts: []int{0, 1, 0, 3, 0}}
	rules := rulesOf(t, "(a+0)=>a", "~~a=>a")
	expectRound(t, "the class is one with two parts", g, rules, 5, folded, true)
	expectRound(t, "nothing is new", folded, rules, 5, folded, true)
	expectGrown(t, "the class is one with two parts", g, rules, 9, 5, folded, 2, impl.GwStill)
	// Here the part comes with the rule.
	sum := withTerms(t, "(a+b)")
	more := inParts(withNodes(sum, eNum(0), eOp(impl.OpAdd, 2, 3)), 0, 1, 2, 3, 2)
	expectGrown(t, "what holds it comes behind", sum, rulesOf(t, "(a+b)=>((a+b)+0)"), 9, 120, more, 2, impl.GwStill)
}

func TestApplyRuleWhereItsLeftIsNot(t *testing.T) {
	g := threeClasses()
	turn := ruleOf(t, "(a+b)=>(b+a)")
	expectApplied(t, g, turn, impl.Found{Class: 4, Bind: bindOf(0, 2)}, g)
	for what, bind := range map[string][]int{
		"both classes wrong":    bindOf(4, 4),
		"the first class wrong": bindOf(4, 2),
		"the last class wrong":  bindOf(0, 4),
		"one class twice":       bindOf(0, 0),
		"no variable has one":   bindOf(),
		"the first has none":    bindOf(-1, 2),
		"the second has none":   bindOf(0),
		"others have them":      bindOf(-1, -1, 0, 2),
	} {
		expectNotApplied(t, what, g, turn, impl.Found{Class: 4, Bind: bind})
	}
	for what, bind := range badBinds() {
		expectNotApplied(t, what, g, turn, impl.Found{Class: 4, Bind: bind})
		expectNotApplied(t, what, g, ruleOf(t, "1=>2"), impl.Found{Class: 0, Bind: bind})
	}
	for _, class := range []int{1, 3, 5, 6, 7, -1, -2, impl.MaxENodes, math.MinInt, math.MaxInt} {
		expectNotApplied(t, "no class", g, turn, impl.Found{Class: class, Bind: bindOf(0, 2)})
		expectNotApplied(t, "no class", g, ruleOf(t, "1=>2"), impl.Found{Class: class, Bind: bindOf()})
		expectNotApplied(t, "no class", g, ruleOf(t, "a=>~a"), impl.Found{Class: class, Bind: bindOf(0)})
	}
	for _, class := range []int{0, 2} {
		expectNotApplied(t, "another class", g, turn, impl.Found{Class: class, Bind: bindOf(0, 2)})
	}
	for _, s := range []string{"(a-b)=>(b+a)", "~a=>a", "(b+b)=>b", "3=>1", "(a+1)=>a", "((a+b)+c)=>c"} {
		expectNotApplied(t, s, g, ruleOf(t, s), impl.Found{Class: 4, Bind: bindOf(0, 2, 4, 0)})
	}
	expectNotApplied(t, "the empty graph", impl.EGraph{}, ruleOf(t, "a=>a"), impl.Found{Bind: bindOf(0)})
	expectNotApplied(t, "the empty graph", impl.EGraph{}, ruleOf(t, "1=>1"), impl.Found{Bind: bindOf()})
	expectNotApplied(t, "nothing told", g, turn, impl.Found{})
}

// withNegative has ~0 and as many numbers as there are nodes in all.
func withNegative(count int) impl.EGraph {
	return withNodes(manyNumbers(count-1), eOp(impl.OpNeg, 0))
}

func TestApplyRuleAtTheLimit(t *testing.T) {
	// The rule puts three nodes, and all else that it tells is there.
	r := ruleOf(t, "~a=>((a-5)*~5)")
	for room := range 6 {
		g := withNegative(impl.MaxENodes - room)
		last := len(g.Nodes) - 1
		f := impl.Found{Class: last, Bind: bindOf(0)}
		if room < 3 {
			expectNotApplied(t, "too little room", g, r, f)
			continue
		}
		want := withNodes(g, eOp(impl.OpSub, 0, 5), eOp(impl.OpNeg, 5), eOp(impl.OpMul, last+1, last+2))
		parts := slices.Clone(want.Parts)
		parts[last+3] = last
		expectApplied(t, g, r, f, inParts(want, parts...))
	}
	full := withNegative(impl.MaxENodes)
	f := impl.Found{Class: impl.MaxENodes - 1, Bind: bindOf(0)}
	expectApplied(t, full, ruleOf(t, "~a=>a"), f, inParts(full, append(aloneEach(impl.MaxENodes-1), 0)...))
	expectApplied(t, full, ruleOf(t, "~a=>~a"), f, full)
	expectNotApplied(t, "one node more", full, ruleOf(t, "~a=>~~a"), f)
	expectNotApplied(t, "a number more", full, ruleOf(t, "~a=>-1"), f)
}

func TestApplyRuleOfGraphsThatAreNotGood(t *testing.T) {
	for name, g := range badGraphs() {
		expectNotApplied(t, name, g, ruleOf(t, "a=>a"), impl.Found{Bind: bindOf(0)})
		expectNotApplied(t, name, g, ruleOf(t, "0=>0"), impl.Found{Bind: bindOf()})
		expectNoGrowth(t, name, g, rulesOf(t, "(a+b)=>(b+a)"), impl.MaxENodes)
		expectNoGrowth(t, name, g, nil, impl.MaxENodes)
	}
}

func TestGrowingTheEmptyGraph(t *testing.T) {
	for _, g := range []impl.EGraph{{}, {Nodes: make([]impl.ENode, 0, 3), Parts: make([]int, 0, 3)}} {
		for _, rules := range [][]impl.Rule{nil, rulesOf(t, shippedTexts...), rulesOf(t, "0=>(1-1)", "(a-a)=>0", "a=>a")} {
			for _, nodes := range []int{0, 1, impl.MaxENodes} {
				expectRound(t, "the empty graph", g, rules, nodes, impl.EGraph{}, true)
				expectGrown(t, "the empty graph", g, rules, 0, nodes, impl.EGraph{}, 0, impl.GwRounds)
				expectGrown(t, "the empty graph", g, rules, 1, nodes, impl.EGraph{}, 1, impl.GwStill)
				expectGrown(t, "the empty graph", g, rules, impl.MaxRounds, nodes, impl.EGraph{}, 1, impl.GwStill)
			}
			for _, nodes := range []int{-1, impl.MaxENodes + 1} {
				expectNoGrowth(t, "the empty graph", g, rules, nodes)
			}
		}
	}
}

func TestRoundsOfNoRules(t *testing.T) {
	wrong := rulesOf(t, "a=>a", "(a+b)=>(a*b)", "(a+b)=>a", "(a-a)=>0")
	for name, g := range goodGraphs() {
		for _, rules := range [][]impl.Rule{nil, {}, wrong} {
			// As no match is there no graph has too many nodes.
			for _, nodes := range []int{0, 1, len(g.Nodes), impl.MaxENodes} {
				expectRound(t, name, g, rules, nodes, g, true)
				expectGrown(t, name, g, rules, 0, nodes, g, 0, impl.GwRounds)
				expectGrown(t, name, g, rules, 1, nodes, g, 1, impl.GwStill)
				expectGrown(t, name, g, rules, 7, nodes, g, 1, impl.GwStill)
			}
		}
	}
}

func TestNumbersOfNodesAndRounds(t *testing.T) {
	g, rules := withTerms(t, "(a+0)"), rulesOf(t, "(a+0)=>a")
	for _, wrong := range []int{-1, -2, -impl.MaxENodes, impl.MaxENodes + 1, impl.MaxENodes + 2, math.MinInt, math.MaxInt} {
		expectNoGrowth(t, "nodes", g, rules, wrong)
		expectNotGrown(t, "rounds", g, rules, wrong, impl.MaxENodes)
		expectNotGrown(t, "rounds and nodes", g, rules, wrong, wrong)
	}
	expectNotGrown(t, "one round too many", g, rules, impl.MaxRounds+1, impl.MaxENodes)
	one := inParts(g, 0, 1, 0)
	for nodes := range impl.MaxENodes + 1 {
		want, begun, code := one, 2, impl.GwStill
		if nodes < 3 {
			want, begun, code = g, 1, impl.GwNodes
		}
		expectRound(t, "nodes", g, rules, nodes, want, nodes >= 3)
		for rounds := 2; rounds <= impl.MaxRounds; rounds++ {
			expectGrown(t, "nodes and rounds", g, rules, rounds, nodes, want, begun, code)
		}
		expectGrown(t, "no rounds", g, rules, 0, nodes, g, 0, impl.GwRounds)
	}
}

// Rules that are not right bring nothing, wherever they stand.
func TestRoundsOfRightRulesAlone(t *testing.T) {
	g := withTerms(t, "(a+0)", "(a-a)", "1")
	one := inParts(g, 0, 1, 0, 3, 4)
	for _, rules := range [][]impl.Rule{
		rulesOf(t, "(a-a)=>0", "(a+0)=>a"), rulesOf(t, "(a+0)=>a", "(a-a)=>0"),
		rulesOf(t, "a=>1", "(a+b)=>b", "(a+0)=>a", "(a-b)=>c", "(a-b)=>(b-a)"),
	} {
		expectRound(t, "one is right", g, rules, 5, one, true)
		expectGrown(t, "one is right", g, rules, 3, 5, one, 2, impl.GwStill)
	}
}

// The class, or what the bind has, was made one with another by a match ahead.
func TestClassesThatWereMergedInTheSameRound(t *testing.T) {
	g := withTerms(t, "(a+0)")
	expectRound(t, "the class", g, rulesOf(t, "(a+0)=>a", "(a+b)=>(b+a)"), 4, inParts(withNodes(g, eOp(impl.OpAdd, 1, 0)), 0, 1, 0, 0), true)
	expectRound(t, "the other order", g, rulesOf(t, "(a+b)=>(b+a)", "(a+0)=>a"), 4, inParts(withNodes(g, eOp(impl.OpAdd, 1, 0)), 0, 1, 0, 0), true)
	chain := withTerms(t, "(((a+0)+0)+0)")
	expectRound(t, "all classes", chain, rulesOf(t, "(a+0)=>a"), 5, inParts(chain, 0, 1, 0, 0, 0), true)
	bound := withTerms(t, "((a+0)*b)")
	expectRound(t, "the bind", bound, rulesOf(t, "(a+0)=>a", "(a*b)=>(b*a)"), 6,
		inParts(withNodes(bound, eOp(impl.OpMul, 3, 2)), 0, 1, 0, 3, 4, 4), true)
	both := withTerms(t, "((a+0)*(b+0))", "(a*b)")
	expectRound(t, "bind and class", both, rulesOf(t, "(a+0)=>a", "(a*b)=>(b*a)"), 8,
		inParts(withNodes(both, eOp(impl.OpMul, 4, 2)), 0, 1, 0, 3, 3, 5, 5, 5), true)
}

// All matches are taken ahead: what the round puts is not gone through.
func TestNewNodesAreNotMatchedInTheSameRound(t *testing.T) {
	g := withTerms(t, "(a*b)")
	rules := rulesOf(t, "(a*b)=>((a+0)*(b+0))")
	first := inParts(withNodes(g, eNum(0), eOp(impl.OpAdd, 0, 3), eOp(impl.OpAdd, 1, 3), eOp(impl.OpMul, 4, 5)), 0, 1, 2, 3, 4, 5, 2)
	second := inParts(withNodes(first, eOp(impl.OpAdd, 4, 3), eOp(impl.OpAdd, 5, 3), eOp(impl.OpMul, 7, 8)), 0, 1, 2, 3, 4, 5, 2, 7, 8, 2)
	expectRound(t, "the first", g, rules, impl.MaxENodes, first, true)
	expectRound(t, "the second", first, rules, impl.MaxENodes, second, true)
	expectGrown(t, "both", g, rules, 2, impl.MaxENodes, second, 2, impl.GwRounds)
	// Nor are those of the rules behind, or what is one only then.
	later := rulesOf(t, "(a*b)=>((a+0)*(b+0))", "(a+0)=>a")
	expectRound(t, "a later rule", g, later, impl.MaxENodes, first, true)
	folded := withTerms(t, "(~(a+0)+~a)")
	sums := rulesOf(t, "(a+0)=>a", "(a+a)=>(a*2)")
	once := inParts(folded, 0, 1, 0, 3, 3, 5)
	expectRound(t, "one only then", folded, sums, impl.MaxENodes, once, true)
	expectRound(t, "one by now", once, sums, impl.MaxENodes, inParts(withNodes(once, eNum(2), eOp(impl.OpMul, 3, 6)), 0, 1, 0, 3, 3, 5, 6, 5), true)
}

// Rules are taken in their order, and of each the matches by classes.
func TestTheOrderOfMatchesInARound(t *testing.T) {
	g := withTerms(t, "(a+b)", "(b*c)", "(a+c)")
	turnSum, turnProduct := ruleOf(t, "(a+b)=>(b+a)"), ruleOf(t, "(a*b)=>(b*a)")
	ab, bc, ac := eOp(impl.OpAdd, 1, 0), eOp(impl.OpMul, 3, 1), eOp(impl.OpAdd, 3, 0)
	expectRound(t, "sums ahead", g, []impl.Rule{turnSum, turnProduct}, 9, inParts(withNodes(g, ab, ac, bc), 0, 1, 2, 3, 4, 5, 2, 5, 4), true)
	expectRound(t, "products ahead", g, []impl.Rule{turnProduct, turnSum}, 9, inParts(withNodes(g, bc, ab, ac), 0, 1, 2, 3, 4, 5, 4, 2, 5), true)
}

func TestRoundsThatEndEarly(t *testing.T) {
	g, rules := withTerms(t, "(a+b)", "(b+c)", "(a+c)"), rulesOf(t, "(a+b)=>(b+a)")
	turns := []impl.ENode{eOp(impl.OpAdd, 1, 0), eOp(impl.OpAdd, 3, 1), eOp(impl.OpAdd, 3, 0)}
	parts := []int{0, 1, 2, 3, 4, 5, 2, 4, 5}
	for nodes := range impl.MaxENodes + 1 {
		room := max(0, min(nodes-6, 3))
		want := inParts(withNodes(g, turns[:room]...), parts[:6+room]...)
		expectRound(t, "three matches", g, rules, nodes, want, nodes >= 9)
		begun, code := 2, impl.GwStill
		if nodes < 9 {
			begun, code = 1, impl.GwNodes
		}
		expectGrown(t, "three matches", g, rules, 4, nodes, want, begun, code)
	}
}

// A match for which there is no room ends the round, though one behind needs none.
func TestNothingIsDoneBehindAnEarlyEnd(t *testing.T) {
	g := withTerms(t, "(a+b)", "(c+0)")
	rules := rulesOf(t, "(a+b)=>(b+a)", "(a+0)=>a")
	expectRound(t, "the first match", g, rules, 6, g, false)
	once := inParts(withNodes(g, eOp(impl.OpAdd, 1, 0)), 0, 1, 2, 3, 4, 5, 2)
	expectRound(t, "the second match", g, rules, 7, once, false)
	expectRound(t, "all matches", g, rules, 8, inParts(withNodes(once, eOp(impl.OpAdd, 4, 3)), 0, 1, 2, 3, 4, 3, 2, 3), true)
	ahead := rulesOf(t, "(a+0)=>a", "(a+b)=>(b+a)")
	expectRound(t, "what needs no room is ahead", g, ahead, 6, inParts(g, 0, 1, 2, 3, 4, 3), false)
}

// Of what a match would put nothing is there where it has too little room.
func TestAnEarlyEndPutsNoPart(t *testing.T) {
	g, rules := withTerms(t, "(a*b)"), rulesOf(t, "(a*b)=>((a+0)*(b+0))")
	for nodes := 3; nodes < 7; nodes++ {
		expectRound(t, "a part would fit", g, rules, nodes, g, false)
		expectGrown(t, "a part would fit", g, rules, 5, nodes, g, 1, impl.GwNodes)
	}
	// 0 is there, so that three nodes are all that it puts.
	for room := range 3 {
		full := withNodes(manyNumbers(impl.MaxENodes-1-room), eOp(impl.OpMul, 1, 2))
		expectRound(t, "at MaxENodes", full, rules, impl.MaxENodes, full, false)
	}
	fits := withNodes(manyNumbers(impl.MaxENodes-4), eOp(impl.OpMul, 1, 2))
	last := len(fits.Nodes)
	want := withNodes(fits, eOp(impl.OpAdd, 1, 0), eOp(impl.OpAdd, 2, 0), eOp(impl.OpMul, last, last+1))
	parts := slices.Clone(want.Parts)
	parts[last+2] = last - 1
	expectRound(t, "just MaxENodes", fits, rules, impl.MaxENodes, inParts(want, parts...), true)
	expectRound(t, "one less", fits, rules, impl.MaxENodes-1, fits, false)
}

// Of each class the first MaxBinds matches are taken: row 6 is not gone through to its end.
func TestRoundsTakeTheFirstMaxBinds(t *testing.T) {
	g, rules := square(9, 70), rulesOf(t, "(a+b)=>(b+a)")
	first := g
	for k := range 6 {
		first.Nodes, first.Parts = append(slices.Clone(first.Nodes), eOp(impl.OpAdd, 8, k)), append(slices.Clone(first.Parts), 9)
	}
	expectRound(t, "the first matches", g, rules, impl.MaxENodes, first, true)
	expectRound(t, "just as many nodes", g, rules, 85, first, true)
	five := impl.EGraph{Nodes: first.Nodes[:84], Parts: first.Parts[:84]}
	expectRound(t, "one less", g, rules, 84, five, false)
	// The same ones are the first again, so that what is behind them is never met.
	expectGrown(t, "all rounds", g, rules, impl.MaxRounds, impl.MaxENodes, first, 2, impl.GwStill)
}

// sumsOfNoughts is what the rule (a+1)=>((a+0)+1) makes of (a+1): each round
// puts two nodes, the first one 0 too.
func sumsOfNoughts(rounds int) impl.EGraph {
	g := impl.EGraph{Nodes: []impl.ENode{eVar(0), eNum(1), eOp(impl.OpAdd, 0, 1)}, Parts: []int{0, 1, 2}}
	last := 0
	for k := range rounds {
		if k == 0 {
			g.Nodes, g.Parts = append(g.Nodes, eNum(0)), append(g.Parts, 3)
		}
		at := len(g.Nodes)
		g.Nodes = append(g.Nodes, eOp(impl.OpAdd, last, 3), eOp(impl.OpAdd, at, 1))
		g.Parts = append(g.Parts, at, 2)
		last = at
	}
	return g
}

// Where the nodes and the rounds come to their end together the nodes are told.
func TestGrowingToTheEndOfNodesOrRounds(t *testing.T) {
	rules := rulesOf(t, "(a+1)=>((a+0)+1)")
	for rounds := range impl.MaxRounds + 1 {
		for nodes := range 30 {
			fit := 0
			for fit < impl.MaxRounds && len(sumsOfNoughts(fit+1).Nodes) <= nodes {
				fit++
			}
			if fit < rounds {
				expectGrown(t, "nodes", sumsOfNoughts(0), rules, rounds, nodes, sumsOfNoughts(fit), fit+1, impl.GwNodes)
			} else {
				expectGrown(t, "rounds", sumsOfNoughts(0), rules, rounds, nodes, sumsOfNoughts(rounds), rounds, impl.GwRounds)
			}
		}
		expectGrown(t, "MaxENodes", sumsOfNoughts(0), rules, rounds, impl.MaxENodes, sumsOfNoughts(rounds), rounds, impl.GwRounds)
	}
}

func TestTheCodesOfGrowing(t *testing.T) {
	g, fold := withTerms(t, "(a+0)"), rulesOf(t, "(a+0)=>a")
	one := inParts(g, 0, 1, 0)
	// What joins classes but puts no node is something new.
	expectGrown(t, "the one round joins", g, fold, 1, 3, one, 1, impl.GwRounds)
	// Still is told ahead of rounds.
	expectGrown(t, "the last round is still", g, fold, 2, 3, one, 2, impl.GwStill)
	expectGrown(t, "the one round is still", one, fold, 1, 3, one, 1, impl.GwStill)
	expectGrown(t, "a round is left", g, fold, 3, 3, one, 2, impl.GwStill)
	expectGrown(t, "no round", one, fold, 0, 3, one, 0, impl.GwRounds)
	// Nodes are told ahead of still and of rounds.
	both := rulesOf(t, "(a+0)=>a", "(a+b)=>(b+a)")
	expectGrown(t, "early, with a joining", g, both, 1, 3, one, 1, impl.GwNodes)
	expectGrown(t, "early, with a joining, rounds left", g, both, 5, 3, one, 1, impl.GwNodes)
	expectGrown(t, "early, with nothing new", one, both, 1, 3, one, 1, impl.GwNodes)
	expectGrown(t, "early, with nothing new, rounds left", one, both, 5, 3, one, 1, impl.GwNodes)
	expectGrown(t, "too many nodes already", one, fold, 5, 2, one, 1, impl.GwNodes)
	expectGrown(t, "too many nodes already, no match", g, rulesOf(t, "(a-0)=>a"), 5, 2, g, 1, impl.GwStill)
	expectGrown(t, "too many nodes already, no round", g, fold, 0, 0, g, 0, impl.GwRounds)
	turned := inParts(withNodes(g, eOp(impl.OpAdd, 1, 0)), 0, 1, 0, 0)
	expectGrown(t, "room for all", g, both, 5, 4, turned, 2, impl.GwStill)
}

func TestGrowingFindsWhatIsCheaper(t *testing.T) {
	for s, want := range map[string]string{
		"(a+a)":               "(a<<1)",
		"((a*1)+0)":           "a",
		"~~(b-0)":             "b",
		"((a*c)+(b*c))":       "((a+b)*c)",
		"((c*a)+(c*b))":       "(c*(a+b))",
		"(1?(a/1):(b/0))":     "a",
		"(0?(a/0):~~(b*1))":   "b",
		"((a+0)/(0+b))":       "(a/b)",
		"((a*-1)*-1)":         "a",
		"(((a+b)+c)+d)":       "(a+((b+c)+d))",
		"((1?a:b)<(0?c:~~d))": "(a<d)",
	} {
		g := withTerms(t, s)
		grown, begun, code, ok := impl.Saturate(g, impl.ShippedRules(), impl.MaxRounds, impl.MaxENodes)
		if !ok {
			t.Errorf("%s does not grow", s)
		}
		k, is := impl.FindTerm(grown, ringTerm(t, want))
		root, _ := impl.FindTerm(grown, ringTerm(t, s))
		if !is || k != root {
			t.Errorf("%s, %d rounds, code %d: %s is in %d, %v, and the term in %d", s, begun, code, want, k, is, root)
		}
	}
}

func TestGrowingDoesNotMakeOneWhatIsNot(t *testing.T) {
	g := withTerms(t, "(a+b)", "(a-b)", "(b-a)", "(a/b)", "(b/a)", "(a-a)", "(b-b)", "1", "2")
	grown, _, _, ok := impl.Saturate(g, impl.ShippedRules(), impl.MaxRounds, impl.MaxENodes)
	if !ok || !slices.Equal(grown.Parts[:len(g.Parts)], g.Parts) {
		t.Errorf("the parts are %v, %v", grown.Parts, ok)
	}
}

// randomRules are mostly right, and mostly such as are met.
func randomRules(t *testing.T, r *rand.Rand) []impl.Rule {
	t.Helper()
	often := []string{"(a+b)=>(b+a)", "((a+b)+c)=>(a+(b+c))", "~~a=>a", "~a=>(a*-1)", "(a+b)=>~(~a-b)", "(a==b)=>(b==a)",
		"(a-b)=>(a+~b)", "(a+b)=>((a+b)+0)", "(a+a)=>(a*2)", "((a<b)?1:0)=>(a<b)", "(a+0)=>a", "~a=>(0-a)", "0=>~0", "1=>(0+1)"}
	var rules []impl.Rule
	for range r.Intn(6) {
		switch r.Intn(8) {
		case 0:
			rules = append(rules, likeOneTold(t, r))
		case 1:
			rules = append(rules, randomRule(r))
		default:
			rules = append(rules, ruleOf(t, often[r.Intn(len(often))]))
		}
	}
	return rules
}

// manyRules has rules of any kind ahead of those that are shipped.
func manyRules(t *testing.T, r *rand.Rand) []impl.Rule {
	t.Helper()
	all := slices.Concat(randomRules(t, r), impl.ShippedRules())
	return all[:min(len(all), impl.MaxRules)]
}

func graphToGrow(r *rand.Rand) impl.EGraph {
	term := fewLeaves(r, randomTerm(r, 1+r.Intn(12)))
	switch r.Intn(6) {
	case 0:
		return crowdedGraph(r, 1+r.Intn(14))
	case 1:
		return randomGraph(r, 1+r.Intn(14))
	case 2:
	default:
		term = fewLeaves(r, randomRing(r, 1+r.Intn(15)))
	}
	g, _ := putTermByTable(impl.EGraph{}, term, len(term)-1)
	return g
}

func TestApplyRuleAsTheTableTells(t *testing.T) {
	r := rand.New(rand.NewSource(90))
	applied, not := 0, 0
	for range 3000 {
		g := graphToGrow(r)
		class := g.Parts[r.Intn(len(g.Parts))]
		rule := impl.Rule{Left: randomPattern(r, g, class, 1+r.Intn(5)), Right: fewLeaves(r, randomTerm(r, 1+r.Intn(impl.MaxPattern)))}
		for range 3 {
			f := impl.Found{Class: class, Bind: bindOf()}
			if binds := wantBinds(g, rule.Left, class); len(binds) > 0 {
				f.Bind = binds[r.Intn(len(binds))]
			}
			for range r.Intn(3) {
				f.Bind[r.Intn(impl.MaxVars)] = g.Parts[r.Intn(len(g.Parts))]
			}
			if matchesByTheWords(g, rule.Left, len(rule.Left)-1, class, f.Bind) && allBound(rule.Right, f.Bind) {
				applied++
				expectApplied(t, g, rule, f, appliedByTable(g, rule, f))
			} else {
				not++
				expectNotApplied(t, writtenRule(rule), g, rule, f)
			}
		}
	}
	if applied < 1000 || not < 1000 {
		t.Errorf("%d were applied, %d were not: too much of one kind", applied, not)
	}
}

func allBound(term []impl.Node, bind []int) bool {
	return !slices.ContainsFunc(term, func(n impl.Node) bool { return n.Op == impl.OpVar && bind[n.N] < 0 })
}

func TestRightRulesAsTheModelDoes(t *testing.T) {
	r := rand.New(rand.NewSource(91))
	for range 300 {
		rules := slices.Concat(randomRules(t, r), randomRules(t, r), randomRules(t, r))
		expectRightRules(t, "any rules", rules, rightByTheWords(t, rules)...)
	}
}

func TestRoundsAsTheTableTells(t *testing.T) {
	r := rand.New(rand.NewSource(92))
	var early, halfway, whole, still int
	for range 1500 {
		g, rules := graphToGrow(r), randomRules(t, r)
		nodes := max(0, len(g.Nodes)-1+r.Intn(7))
		want, all := roundByTable(g, rightByTheWords(t, rules), nodes)
		expectRound(t, "any rules", g, rules, nodes, want, all)
		same := sameGraph(g, want)
		switch {
		case all && same:
			still++
		case all:
			whole++
		case same:
			early++
		default:
			halfway++
		}
	}
	if min(early, halfway, whole, still) < 50 {
		t.Errorf("%d were early, %d ended halfway, %d were whole, %d still: too few", early, halfway, whole, still)
	}
}

func TestGrowingAsTheTableTells(t *testing.T) {
	r := rand.New(rand.NewSource(93))
	codes := map[int]int{}
	for range 500 {
		g, rules := graphToGrow(r), randomRules(t, r)
		nodes, rounds := max(0, len(g.Nodes)-1+r.Intn(16)), r.Intn(6)
		want, begun, code := grownByTable(g, rightByTheWords(t, rules), rounds, nodes)
		expectGrown(t, "any rules", g, rules, rounds, nodes, want, begun, code)
		codes[code]++
	}
	for _, code := range []int{impl.GwStill, impl.GwRounds, impl.GwNodes} {
		if codes[code] < 50 {
			t.Errorf("code %d was told %d times: too few", code, codes[code])
		}
	}
}

func TestGrowingManyNodesAsTheTableTells(t *testing.T) {
	rules := rulesOf(t, shippedTexts...)
	for _, s := range []string{"((a+b)+(c+a))", "(((a*b)+(c*b))-0)", "((1?a:(b/1))*(a+a))"} {
		g := withTerms(t, s)
		for _, nodes := range []int{30, 45} {
			want, begun, code := grownByTable(g, rules, 3, nodes)
			expectGrown(t, s, g, rules, 3, nodes, want, begun, code)
		}
	}
}

// valuesByChoice has for each node what it comes to, a choice reckoning one
// side alone, where all of a class come to what its first node does.
func valuesByChoice(nodes []impl.ENode, env []int64) []valued {
	values := make([]valued, len(nodes))
	for k, n := range nodes {
		switch {
		case n.Op == impl.OpNum:
			values[k].n = n.N
		case n.Op == impl.OpVar:
			values[k].n = env[n.N]
		case n.Op == impl.OpIf && values[n.Kids[0]].traps:
			values[k].traps = true
		case n.Op == impl.OpIf && values[n.Kids[0]].n != 0:
			values[k] = values[n.Kids[1]]
		case n.Op == impl.OpIf:
			values[k] = values[n.Kids[2]]
		default:
			values[k] = valueOfAll(n, values)
		}
	}
	return values
}

func valueOfAll(n impl.ENode, values []valued) valued {
	var args []int64
	for _, kid := range n.Kids {
		if values[kid].traps {
			return valued{0, true}
		}
		args = append(args, values[kid].n)
	}
	got, traps, _ := impl.DoOp(n.Op, args)
	return valued{got, traps}
}

// expectGrowth holds a graph against what it was grown from.
func expectGrowth(t *testing.T, what string, was, grown impl.EGraph, nodes int) {
	t.Helper()
	if !impl.GoodGraph(grown) {
		t.Fatalf("%s: %v is not good", what, grown)
	}
	if len(grown.Nodes) < len(was.Nodes) || len(grown.Nodes) > max(nodes, len(was.Nodes)) {
		t.Fatalf("%s: %d nodes became %d, with %d at most", what, len(was.Nodes), len(grown.Nodes), nodes)
	}
	for k, n := range was.Nodes {
		if !sameENode(kidsByParts(n, grown.Parts), grown.Nodes[k]) {
			t.Fatalf("%s: node %d is %v, was %v", what, k, grown.Nodes[k], n)
		}
	}
	if is, ok := impl.IsFinerParts(was.Parts, grown.Parts[:len(was.Parts)]); !is || !ok {
		t.Fatalf("%s: what was one in %v is not in %v", what, was.Parts, grown.Parts)
	}
}

// Promise 9: growing keeps what was one, and stays within the nodes it may have, or those that there were.
func TestGrowingKeepsWhatWasOne(t *testing.T) {
	r := rand.New(rand.NewSource(94))
	for range 400 {
		g := randomGraph(r, 1+r.Intn(60))
		rules := manyRules(t, r)
		nodes := r.Intn(impl.MaxENodes + 1)
		grown, _, _, ok := impl.Saturate(g, rules, r.Intn(impl.MaxRounds+1), nodes)
		if !ok {
			t.Fatal("want to grow", g)
		}
		expectGrowth(t, "Saturate", g, grown, nodes)
		once, _, ok := impl.RoundOf(g, rules, nodes)
		if !ok {
			t.Fatal("want a round", g)
		}
		expectGrowth(t, "RoundOf", g, once, nodes)
		right, _ := impl.RightRules(rules)
		for _, rule := range right {
			found, _ := impl.AllMatches(g, rule.Left)
			for _, f := range found[:min(len(found), 3)] {
				if applied, ok := impl.ApplyRule(g, rule, f); ok {
					expectGrowth(t, "ApplyRule", g, applied, impl.MaxENodes)
				}
			}
		}
	}
}

// What right rules make one comes to the same, traps and all.
func TestWhatGrowingMakesOneComesToTheSame(t *testing.T) {
	r := rand.New(rand.NewSource(95))
	joinings := 0
	for range 300 {
		term := fewLeaves(r, randomTerm(r, 1+r.Intn(30)))
		g, _, _ := impl.AddTerm(impl.EGraph{}, term)
		grown, _, _, ok := impl.Saturate(g, manyRules(t, r), impl.MaxRounds, impl.MaxENodes)
		if !ok {
			t.Fatal("want to grow", g)
		}
		for range 10 {
			env := randomEnv(r)
			values := valuesByChoice(grown.Nodes, env)
			for k, least := range grown.Parts {
				if values[k] != values[least] {
					t.Fatalf("%s at %v: nodes %d and %d of %v are one", written(term), env, k, least, grown)
				}
			}
		}
		classes, _ := impl.ClassesIn(grown)
		joinings += len(grown.Nodes) - len(classes)
	}
	if joinings < 3000 {
		t.Errorf("only %d joinings", joinings)
	}
}

// Where growing is still all that the rules say of the matches is there.
func TestNothingIsNewWhereGrowingIsStill(t *testing.T) {
	r := rand.New(rand.NewSource(96))
	still := 0
	for range 400 {
		g, rules := graphToGrow(r), randomRules(t, r)
		grown, begun, code, _ := impl.Saturate(g, rules, impl.MaxRounds, impl.MaxENodes)
		if code != impl.GwStill {
			continue
		}
		still++
		expectGrown(t, "again", grown, rules, impl.MaxRounds, impl.MaxENodes, grown, 1, impl.GwStill)
		expectRound(t, "again", grown, rules, impl.MaxENodes, grown, true)
		for _, rule := range rightByTheWords(t, rules) {
			found, _ := impl.AllMatches(grown, rule.Left)
			for _, f := range found {
				expectIs(t, grown, rule.Right, f.Class, f.Bind, true)
			}
		}
		if begun > 1 {
			expectGrown(t, "a round less", g, rules, begun-1, impl.MaxENodes, grown, begun-1, impl.GwRounds)
		}
	}
	if still < 200 {
		t.Errorf("%d of 400 were still: too few", still)
	}
}

// Saturate does as one round behind the other does.
func TestGrowingIsRoundsOneByOne(t *testing.T) {
	r := rand.New(rand.NewSource(97))
	for range 60 {
		term := fewLeaves(r, randomTerm(r, 1+r.Intn(20)))
		g, _, _ := impl.AddTerm(impl.EGraph{}, term)
		rules := impl.ShippedRules()
		now, whole := g, true
		for rounds := range impl.MaxRounds + 1 {
			grown, begun, code, ok := impl.Saturate(g, rules, rounds, impl.MaxENodes)
			if !ok || !sameGraph(grown, now) || begun != rounds {
				t.Fatalf("%s: %d rounds begun, want %d; the graph is %v, want %v", written(term), begun, rounds, grown, now)
			}
			if code != impl.GwRounds {
				break
			}
			if !whole {
				t.Fatalf("%s: code %d behind an early end", written(term), code)
			}
			now, whole, _ = impl.RoundOf(now, rules, impl.MaxENodes)
		}
	}
}

// rulesWithTail hands rules over with others, that are not good, behind.
func rulesWithTail(rules []impl.Rule) []impl.Rule {
	var all []impl.Rule
	for _, r := range rules {
		all = append(all, ruleWithTail(r))
	}
	return append(all, impl.Rule{}, impl.Rule{Left: variable(0)})[:len(rules)]
}

func expectRulesWithTail(t *testing.T, what string, rules, was []impl.Rule) {
	t.Helper()
	want := rulesWithTail(was)
	if !slices.EqualFunc(rules[:len(rules)+2], want[:len(want)+2], wholeRule) {
		t.Fatalf("%s: the rules are %v, were %v", what, rules[:len(rules)+2], was)
	}
}

func spoilRules(rules []impl.Rule) {
	for k, r := range rules[:cap(rules)] {
		spoil(r.Left)
		spoil(r.Right)
		rules[:cap(rules)][k] = impl.Rule{}
	}
}

func TestGrowingChangesNothingThatIsHandedIn(t *testing.T) {
	before := map[string]impl.EGraph{"crowded": crowdedGraph(rand.New(rand.NewSource(98)), 20), "in itself": inItself()}
	for name, g := range goodGraphs() {
		before[name] = g
	}
	for name, g := range badGraphs() {
		before["bad: "+name] = g
	}
	lists := [][]impl.Rule{nil, rulesOf(t, "(a+b)=>(b+a)", "(a+0)=>a", "~a=>(a*-1)"), rulesOf(t, "a=>b", "~a=>~a"), {badRules()["a right too long"]}}
	for name, was := range before {
		for _, rulesWere := range lists {
			for _, nodes := range []int{impl.MaxENodes, len(was.Nodes) + 1, 0, -1} {
				g, rules := graphWithTail(was), rulesWithTail(rulesWere)
				once, _, _ := impl.RoundOf(g, rules, nodes)
				spoilGraph(once)
				for _, rounds := range []int{0, 1, 3, -1} {
					grown, _, _, _ := impl.Saturate(g, rules, rounds, nodes)
					spoilGraph(grown)
				}
				right, _ := impl.RightRules(rules)
				spoilRules(right)
				expectTail(t, name, g, was)
				expectRulesWithTail(t, name, rules, rulesWere)
			}
		}
		expectApplyingChangesNothing(t, name, was)
	}
}

func expectApplyingChangesNothing(t *testing.T, name string, was impl.EGraph) {
	t.Helper()
	for _, s := range []string{"(a+b)=>(b+a)", "~a=>a", "a=>(a+7)", "a=>b", "~a=>~(a*(a+1))"} {
		for _, bindWas := range [][]int{bindOf(0, 1), bindOf(0), bindOf(), {0}, {0, -2, 0, 0}} {
			for class := range 3 {
				g, rule, bind := graphWithTail(was), ruleWithTail(ruleOf(t, s)), withNumbersBehind(bindWas)
				applied, _ := impl.ApplyRule(g, rule, impl.Found{Class: class, Bind: bind})
				spoilGraph(applied)
				expectTail(t, name, g, was)
				if !wholeRule(rule, ruleWithTail(ruleOf(t, s))) || !slices.Equal(bind, bindWas) {
					t.Fatalf("%s: the rule is %v, the bind %v", name, rule, bind)
				}
				expectNumbersBehind(t, name, bind)
			}
		}
	}
}

// expectNothingBehind looks for nodes and numbers that a round gave up again.
func expectNothingBehind(t *testing.T, what string, g impl.EGraph) {
	t.Helper()
	for _, n := range g.Nodes[:cap(g.Nodes)][len(g.Nodes):] {
		if !sameENode(n, impl.ENode{}) {
			t.Errorf("%s: %v lies behind the nodes", what, n)
		}
	}
	for _, k := range g.Parts[:cap(g.Parts)][len(g.Parts):] {
		if k != 0 {
			t.Errorf("%s: %d lies behind the parts", what, k)
		}
	}
}

func TestGrownGraphsAreNewMemory(t *testing.T) {
	kids := []int{0, 0}
	shared := impl.EGraph{Nodes: []impl.ENode{eVar(0), {Op: impl.OpAdd, Kids: kids}, {Op: impl.OpSub, Kids: kids}}, Parts: aloneEach(3)}
	turn, fold := rulesOf(t, "(a+b)=>(b+a)", "(a-b)=>(a+~b)"), rulesOf(t, "(a+0)=>a", "(a*b)=>((a+0)*(b+0))")
	for _, was := range []impl.EGraph{shared, withTerms(t, "((a+0)*b)"), square(5, 25), {}} {
		for _, rules := range [][]impl.Rule{nil, turn, fold, slices.Concat(fold, turn)} {
			for _, nodes := range []int{impl.MaxENodes, len(was.Nodes) + 1, len(was.Nodes), 0} {
				once, _, _ := impl.RoundOf(was, rules, nodes)
				expectNothingBehind(t, "RoundOf", once)
				expectOwnMemory(t, "RoundOf", once)
				for _, rounds := range []int{0, 1, 2, impl.MaxRounds} {
					grown, _, _, _ := impl.Saturate(was, rules, rounds, nodes)
					expectNothingBehind(t, "Saturate", grown)
					expectOwnMemory(t, "Saturate", grown)
				}
			}
		}
	}
	for s, f := range map[string]impl.Found{"(a+b)=>(b+a)": {Class: 1, Bind: bindOf(0, 0)}, "a=>(a*(a+a))": {Class: 0, Bind: bindOf(0)}, "a=>(1-(2-a))": {Class: 2, Bind: bindOf(2)}} {
		applied, ok := impl.ApplyRule(shared, ruleOf(t, s), f)
		if !ok {
			t.Errorf("%s: want to be applied", s)
		}
		expectOwnMemory(t, "ApplyRule", applied)
	}
	if !slices.Equal(kids, []int{0, 0}) {
		t.Errorf("the kids are %v", kids)
	}
}

func TestRightRulesAreNewMemory(t *testing.T) {
	side := ringTerm(t, "(a+b)")
	one := impl.Rule{Left: side, Right: side}
	rules := []impl.Rule{one, ruleOf(t, "a=>b"), one, one}
	right, _ := impl.RightRules(rules)
	expectRulesApart(t, "RightRules", right, []string{"(a+b)=>(a+b)", "(a+b)=>(a+b)", "(a+b)=>(a+b)"})
	if written(side) != "(a+b)" {
		t.Errorf("the side is %v", side)
	}
	first, _ := impl.RightRules(rules)
	second, _ := impl.RightRules(rules)
	expectRulesApart(t, "RightRules twice", slices.Concat(first, second), slices.Repeat([]string{"(a+b)=>(a+b)"}, 6))
	spoilRules(first)
	expectRightRules(t, "behind that", rules, one, one, one)
}

func TestGrowingReadsNothingBehindTheLength(t *testing.T) {
	g := withTerms(t, "(a+0)")
	rules := rulesOf(t, "(a+b)=>(b+a)", "(a+0)=>a", "a=>a")
	expectRightRules(t, "none of three", rules[:0])
	expectRightRules(t, "one of three", rules[:1], rules[0])
	turned := inParts(withNodes(g, eOp(impl.OpAdd, 1, 0)), 0, 1, 2, 2)
	expectRound(t, "none of three", g, rules[:0], 9, g, true)
	expectRound(t, "one of three", g, rules[:1], 9, turned, true)
	expectGrown(t, "one of three", g, rules[:1], 9, 9, turned, 2, impl.GwStill)
	expectApplied(t, g, rules[1], impl.Found{Class: 2, Bind: []int{0, -1, -1, -1, 7, 8}[:impl.MaxVars]}, inParts(g, 0, 1, 0))
	expectNotApplied(t, "a bind that goes on", g, rules[1], impl.Found{Class: 2, Bind: bindOf(0)[:3]})
	long := ringTerm(t, "~~~~~~~~a")
	expectRightRules(t, "a piece of a term", []impl.Rule{{Left: long[:7], Right: long[:7]}}, impl.Rule{Left: long[:7], Right: long[:7]})
	expectNoRightRules(t, "a piece too long", []impl.Rule{{Left: long[:7], Right: long[:8]}})
}

// An early end leaves nothing behind for the calls that follow.
func TestTheSameGrowthHasTheSameAnswer(t *testing.T) {
	r := rand.New(rand.NewSource(99))
	for range 30 {
		g, rules := crowdedGraph(r, 1+r.Intn(40)), manyRules(t, r)
		nodes := len(g.Nodes) + r.Intn(20)
		grown, begun, code, _ := impl.Saturate(g, rules, 4, nodes)
		once, whole, _ := impl.RoundOf(g, rules, nodes)
		for range 3 {
			expectGrown(t, "again", g, rules, 4, nodes, grown, begun, code)
			expectRound(t, "again", g, rules, nodes, once, whole)
		}
	}
}
