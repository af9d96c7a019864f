package tests

import (
	"math"
	"math/big"
	"math/rand"
	"slices"
	"testing"
	"time"

	"loop.example/g00694/impl"
)

const bound = 1 << 50

// costsTold are those of the ops, as the document tells them.
var costsTold = map[int]int{
	impl.OpNum: 1, impl.OpVar: 1, impl.OpNeg: 2, impl.OpAdd: 2, impl.OpSub: 2, impl.OpMul: 4,
	impl.OpShl: 2, impl.OpDiv: 20, impl.OpEq: 2, impl.OpLess: 2, impl.OpIf: 3,
}

// costFrom goes through a term from its root.
func costFrom(t []impl.Node, root int) int {
	cost := costsTold[t[root].Op]
	for _, at := range partsOf(t, root) {
		cost += costFrom(t, at)
	}
	return cost
}

// boundless has for each class, at its number, what its cheapest term costs,
// without a bound: of all nodes whose kids are known the cheapest one makes its
// class known, and then the next one (Knuth).
func boundless(g impl.EGraph) []*big.Int {
	known := make([]*big.Int, len(g.Nodes))
	for {
		at, least := -1, new(big.Int)
		for k, n := range g.Nodes {
			if known[g.Parts[k]] != nil {
				continue
			}
			if cost := sumOver(n, known); cost != nil && (at < 0 || cost.Cmp(least) < 0) {
				at, least = k, cost
			}
		}
		if at < 0 {
			return known
		}
		known[g.Parts[at]] = least
	}
}

func sumOver(n impl.ENode, known []*big.Int) *big.Int {
	sum := big.NewInt(int64(costsTold[n.Op]))
	for _, kid := range n.Kids {
		if known[kid] == nil {
			return nil
		}
		sum.Add(sum, known[kid])
	}
	return sum
}

func bounded(n *big.Int) int {
	if n.Cmp(big.NewInt(bound)) >= 0 {
		return bound
	}
	return int(n.Int64())
}

func classesOf(g impl.EGraph) []int {
	var classes []int
	for k, least := range g.Parts {
		if k == least {
			classes = append(classes, k)
		}
	}
	return classes
}

func wantBest(g impl.EGraph) []int {
	var best []int
	costs := boundless(g)
	for _, class := range classesOf(g) {
		best = append(best, bounded(costs[class]))
	}
	return best
}

// wantChosen goes through the nodes of a class from the last one on.
func wantChosen(g impl.EGraph, costs []*big.Int, class int) int {
	chosen, least := -1, 0
	for k := len(g.Nodes) - 1; k >= 0; k-- {
		if g.Parts[k] != class {
			continue
		}
		sum := big.NewInt(int64(costsTold[g.Nodes[k].Op]))
		for _, kid := range g.Nodes[k].Kids {
			sum.Add(sum, big.NewInt(int64(bounded(costs[kid]))))
		}
		if cost := bounded(sum); chosen < 0 || cost <= least {
			chosen, least = k, cost
		}
	}
	return chosen
}

// An extraction keeps the terms of classes; nil where one has too many nodes.
type extraction struct {
	g     impl.EGraph
	costs []*big.Int
	terms map[int][]impl.Node
}

func extractionOf(g impl.EGraph) extraction {
	return extraction{g, boundless(g), map[int][]impl.Node{}}
}

func (e extraction) term(class int) []impl.Node {
	if term, is := e.terms[class]; is {
		return term
	}
	n := e.g.Nodes[wantChosen(e.g, e.costs, class)]
	var parts []impl.Node
	whole := true
	for _, kid := range n.Kids {
		part := e.term(kid)
		whole = whole && part != nil
		parts = append(parts, part...)
	}
	e.terms[class] = nil
	if whole && len(parts) < impl.MaxNodes {
		e.terms[class] = append(parts, impl.Node{Op: n.Op, N: n.N})
	}
	return e.terms[class]
}

func expectCost(t *testing.T, term []impl.Node, want int) {
	t.Helper()
	if got, ok := impl.CostOf(term); got != want || !ok {
		t.Errorf("CostOf %s: got %d, %v, want %d, true", written(term), got, ok, want)
	}
}

func expectBest(t *testing.T, g impl.EGraph, want ...int) {
	t.Helper()
	got, ok := impl.BestCosts(g)
	expectList(t, "BestCosts", got, ok, want...)
}

func expectChosen(t *testing.T, g impl.EGraph, class, want int) {
	t.Helper()
	if got, ok := impl.ChosenIn(g, class); got != want || !ok {
		t.Errorf("ChosenIn %d: got %d, %v, want %d, true", class, got, ok, want)
	}
}

func expectExtracted(t *testing.T, g impl.EGraph, class int, want string) {
	t.Helper()
	term := ringTerm(t, want)
	got, cost, ok := impl.Extract(g, class)
	expectTerm(t, "Extract", got, ok, term)
	if cost != costFrom(term, len(term)-1) {
		t.Errorf("Extract %s: it costs %d, want %d", want, cost, costFrom(term, len(term)-1))
	}
}

func expectNotExtracted(t *testing.T, what string, g impl.EGraph, class int) {
	t.Helper()
	got, cost, ok := impl.Extract(g, class)
	expectNoTerm(t, "Extract, "+what, got, ok)
	if cost != 0 {
		t.Errorf("Extract, %s: it costs %d, want 0", what, cost)
	}
}

func expectHeld(t *testing.T, g impl.EGraph, class int, term []impl.Node, want bool) {
	t.Helper()
	if got, ok := impl.HoldsTerm(g, class, term); got != want || !ok {
		t.Errorf("HoldsTerm of %s at %d: got %v, %v, want %v, true", written(term), class, got, ok, want)
	}
}

func expectNotHeld(t *testing.T, what string, g impl.EGraph, class int, term []impl.Node) {
	t.Helper()
	if got, ok := impl.HoldsTerm(g, class, term); got || ok {
		t.Errorf("HoldsTerm, %s: got %v, %v, want false, false", what, got, ok)
	}
}

// expectNoClass asks for k, which is no class of g, at every place.
func expectNoClass(t *testing.T, what string, g impl.EGraph, k int) {
	t.Helper()
	if got, ok := impl.ChosenIn(g, k); got != 0 || ok {
		t.Errorf("ChosenIn %d, %s: got %d, %v, want 0, false", k, what, got, ok)
	}
	expectNotExtracted(t, what, g, k)
	for _, s := range []string{"a", "b", "0", "(a+b)", "~a"} {
		expectNotHeld(t, what, g, k, ringTerm(t, s))
	}
}

// expectAsTheModelTells asks for all that there is of a graph.
func expectAsTheModelTells(t *testing.T, g impl.EGraph) {
	t.Helper()
	expectBest(t, g, wantBest(g)...)
	e := extractionOf(g)
	for _, class := range classesOf(g) {
		expectChosen(t, g, class, wantChosen(g, e.costs, class))
		if term := e.term(class); term != nil {
			expectExtracted(t, g, class, written(term))
		} else {
			expectNotExtracted(t, "too many nodes", g, class)
		}
	}
}

func TestCostOfOp(t *testing.T) {
	if len(costsTold) != impl.OpIf {
		t.Fatal("not each op has its cost", costsTold)
	}
	for op := -300; op < 300; op++ {
		want, is := costsTold[op]
		if got, ok := impl.CostOfOp(op); got != want || ok != is {
			t.Errorf("CostOfOp %d: got %d, %v, want %d, %v", op, got, ok, want, is)
		}
	}
	for _, op := range []int{impl.OpLoad, impl.OpStore, math.MinInt, math.MaxInt, math.MinInt + impl.OpDiv, 1<<32 + impl.OpDiv} {
		if got, ok := impl.CostOfOp(op); got != 0 || ok {
			t.Errorf("CostOfOp %d: got %d, %v, want 0, false", op, got, ok)
		}
	}
}

func TestCostOf(t *testing.T) {
	for s, want := range map[string]int{
		"a": 1, "d": 1, "0": 1, "-9223372036854775808": 1, "~a": 3, "~~~7": 7, "(a+b)": 4, "(a-a)": 4, "(a*b)": 6, "(a<<1)": 4,
		"(a/b)": 22, "(a==b)": 4, "(a<b)": 4, "(a?b:c)": 6, "((a*b)/~c)": 29, "((a?b:c)?(a/b):(a*b))": 37,
	} {
		expectCost(t, ringTerm(t, s), want)
	}
}

func TestCostsOfTermsOfMaxNodes(t *testing.T) {
	expectCost(t, negated(variable(0), impl.MaxNodes-1), 79)
	divided := variable(0)
	for range 19 {
		divided = joinedNodes(impl.OpDiv, divided, num(7))
	}
	expectCost(t, divided, 19*20+20)
	expectCost(t, negated(divided, 1), 19*20+20+2)
	chosen := num(1)
	for range 13 {
		chosen = joinedNodes(impl.OpIf, variable(0), chosen, variable(3))
	}
	expectCost(t, chosen, 13*3+27)
	for _, long := range [][]impl.Node{negated(variable(0), impl.MaxNodes), negated(divided, 2), joinedNodes(impl.OpIf, chosen, num(1), num(2))} {
		if got, ok := impl.CostOf(long); got != 0 || ok {
			t.Errorf("CostOf %d nodes: got %d, %v, want 0, false", len(long), got, ok)
		}
	}
}

func TestCostOfAnyTerms(t *testing.T) {
	r := rand.New(rand.NewSource(100))
	for range 1000 {
		term := randomTerm(r, 1+r.Intn(impl.MaxNodes))
		expectCost(t, term, costFrom(term, len(term)-1))
	}
}

func TestTermsThatAreNotGoodCostNothing(t *testing.T) {
	for name, term := range badTerms() {
		if got, ok := impl.CostOf(term); got != 0 || ok {
			t.Errorf("CostOf %s: got %d, %v, want 0, false", name, got, ok)
		}
		for _, g := range []impl.EGraph{sums(true), inItself(), oneChain(impl.MaxENodes)} {
			expectNotHeld(t, name, g, 0, term)
		}
	}
}

// In a graph of one term alone that term is what there is.
func TestGraphsOfOneTerm(t *testing.T) {
	for s, want := range map[string][]int{
		"a": {1}, "5": {1}, "~a": {1, 3}, "(a+b)": {1, 1, 4}, "(a+a)": {1, 4}, "(a-b)": {1, 1, 4}, "(a*b)": {1, 1, 6}, "(a<<b)": {1, 1, 4},
		"(a/b)": {1, 1, 22}, "(a==b)": {1, 1, 4}, "(a<b)": {1, 1, 4}, "(a?b:c)": {1, 1, 1, 6}, "(a?a:a)": {1, 6},
		"((a/b)*~(a/b))": {1, 1, 22, 24, 50},
	} {
		g := withTerms(t, s)
		expectBest(t, g, want...)
		last := len(g.Nodes) - 1
		expectChosen(t, g, last, last)
		expectExtracted(t, g, last, s)
	}
}

func TestAnyTermIsExtractedAgain(t *testing.T) {
	r := rand.New(rand.NewSource(101))
	for range 500 {
		term := randomTerm(r, 1+r.Intn(impl.MaxNodes))
		g, class, _ := impl.AddTerm(impl.EGraph{}, term)
		expectExtracted(t, g, class, written(term))
		expectAsTheModelTells(t, g)
	}
}

func TestTheCheapestOfSeveral(t *testing.T) {
	g := inParts(withTerms(t, "(a/b)", "(a*b)", "(c+d)", "~c", "d"), 0, 1, 2, 2, 4, 5, 2, 2)
	expectBest(t, g, 1, 1, 3, 1, 1)
	expectChosen(t, g, 2, 7)
	expectExtracted(t, g, 2, "~c")
	leaf := inParts(g, 0, 1, 2, 2, 4, 2, 2, 2)
	expectBest(t, leaf, 1, 1, 1, 1)
	expectChosen(t, leaf, 2, 5)
	expectExtracted(t, leaf, 2, "d")
	above := inParts(withTerms(t, "((a/b)+(a/b))", "(a*b)"), 0, 1, 2, 3, 2)
	expectBest(t, above, 1, 1, 6, 14)
	expectExtracted(t, above, 3, "((a*b)+(a*b))")
}

// The op alone does not tell what a node costs, nor do its parts.
func TestCheapOpsOverDearClasses(t *testing.T) {
	g := withTerms(t, "~(a/b)", "(c*d)")
	g = inParts(g, 0, 1, 2, 3, 4, 5, 3)
	expectBest(t, g, 1, 1, 22, 6, 1, 1)
	expectChosen(t, g, 3, 6)
	expectExtracted(t, g, 3, "(c*d)")
	near := inParts(withTerms(t, "~((a*b)*(c*d))", "(1/2)"), 0, 1, 2, 3, 4, 5, 6, 7, 8, 9, 7)
	if near.Nodes[7].Op != impl.OpNeg || near.Nodes[10].Op != impl.OpDiv {
		t.Fatal("not the nodes that are asked for", near)
	}
	expectChosen(t, near, 7, 7)
	expectExtracted(t, near, 7, "~((a*b)*(c*d))")
	farther := inParts(withTerms(t, "~((a*b)*((c*d)*2))", "(1/2)"), 0, 1, 2, 3, 4, 5, 6, 7, 8, 9, 10, 9)
	if farther.Nodes[9].Op != impl.OpNeg || farther.Nodes[11].Op != impl.OpDiv {
		t.Fatal("not the nodes that are asked for", farther)
	}
	expectBest(t, farther, 1, 1, 6, 1, 1, 6, 1, 11, 21-4+4, 22, 1)
	expectChosen(t, farther, 9, 11)
}

func TestTiesInAClass(t *testing.T) {
	g := inParts(withTerms(t, "(a+b)", "(b-a)", "(a<<b)"), 0, 1, 2, 2, 2)
	expectBest(t, g, 1, 1, 4)
	expectChosen(t, g, 2, 2)
	expectExtracted(t, g, 2, "(a+b)")
	behind := inParts(withTerms(t, "(a/b)", "(b-a)", "(a+b)"), 0, 1, 2, 2, 2)
	expectChosen(t, behind, 2, 3)
	expectExtracted(t, behind, 2, "(b-a)")
	leaves := inParts(withTerms(t, "b", "1", "a", "0"), 0, 0, 0, 0)
	expectChosen(t, leaves, 0, 0)
	expectExtracted(t, leaves, 0, "b")
	alike := impl.EGraph{Nodes: []impl.ENode{eVar(0), eVar(0), eOp(impl.OpNeg, 0), eOp(impl.OpNeg, 0)}, Parts: []int{0, 0, 2, 2}}
	expectBest(t, alike, 1, 3)
	expectChosen(t, alike, 0, 0)
	expectChosen(t, alike, 2, 2)
}

// Node 4 comes to what node 5 costs only by way of node 6, which is behind both.
func TestATieThatIsFoundFromBehind(t *testing.T) {
	g := impl.EGraph{
		Nodes: []impl.ENode{eVar(0), eVar(1), eVar(2), eOp(impl.OpDiv, 0, 1), eOp(impl.OpNeg, 3), eOp(impl.OpNeg, 2), eNum(9)},
		Parts: []int{0, 1, 2, 3, 4, 4, 3},
	}
	expectBest(t, g, 1, 1, 1, 1, 3)
	expectChosen(t, g, 3, 6)
	expectChosen(t, g, 4, 4)
	expectExtracted(t, g, 4, "~9")
	g.Nodes[6] = eOp(impl.OpSub, 0, 1)
	expectBest(t, g, 1, 1, 1, 4, 3)
	expectChosen(t, g, 4, 5)
	expectExtracted(t, g, 4, "~c")
}

// At the same cost the dearer op may stand ahead of the cheaper one, or behind.
func TestTiesOfUnlikeOps(t *testing.T) {
	product := inParts(withTerms(t, "(~a+1)", "(a*b)"), 0, 1, 2, 3, 4, 3)
	expectBest(t, product, 1, 3, 1, 6, 1)
	expectChosen(t, product, 3, 3)
	expectExtracted(t, product, 3, "(~a+1)")
	turned := inParts(withTerms(t, "(a*b)", "(~a+1)"), 0, 1, 2, 3, 4, 2)
	expectBest(t, turned, 1, 1, 6, 3, 1)
	expectChosen(t, turned, 2, 2)
	expectExtracted(t, turned, 2, "(a*b)")
}

func TestCheapestOfAClassThatHoldsItself(t *testing.T) {
	expectBest(t, inItself(), 1, 1)
	expectChosen(t, inItself(), 0, 0)
	expectExtracted(t, inItself(), 0, "a")
	// The class is (a/b), ~ of itself, and itself with 0.
	g := impl.EGraph{
		Nodes: []impl.ENode{eVar(0), eVar(1), eOp(impl.OpDiv, 0, 1), eOp(impl.OpNeg, 2), eNum(0), eOp(impl.OpAdd, 2, 4)},
		Parts: []int{0, 1, 2, 2, 4, 2},
	}
	expectBest(t, g, 1, 1, 22, 1)
	expectChosen(t, g, 2, 2)
	expectExtracted(t, g, 2, "(a/b)")
	// What leads back stands ahead of the cheapest node.
	g.Nodes, g.Parts = append(g.Nodes, eVar(3)), append(g.Parts, 2)
	expectBest(t, g, 1, 1, 1, 1)
	expectChosen(t, g, 2, 6)
	expectExtracted(t, g, 2, "d")
}

func TestCheapestOfClassesThatHoldOneAnother(t *testing.T) {
	// 2 is (a/b) and ~ of 3, and 3 is ~ of 2.
	g := impl.EGraph{
		Nodes: []impl.ENode{eVar(0), eVar(1), eOp(impl.OpDiv, 0, 1), eOp(impl.OpNeg, 2), eOp(impl.OpNeg, 3)},
		Parts: []int{0, 1, 2, 3, 2},
	}
	expectBest(t, g, 1, 1, 22, 24)
	expectChosen(t, g, 2, 2)
	expectChosen(t, g, 3, 3)
	expectExtracted(t, g, 3, "~(a/b)")
	// The cheaper way out is in 3, behind the node that leads back.
	g.Nodes, g.Parts = append(g.Nodes, eNum(5)), append(g.Parts, 3)
	expectBest(t, g, 1, 1, 3, 1)
	expectChosen(t, g, 2, 4)
	expectChosen(t, g, 3, 5)
	expectExtracted(t, g, 2, "~5")
	expectExtracted(t, g, 3, "5")
	// Now it is in 2.
	g.Parts[5] = 2
	expectBest(t, g, 1, 1, 1, 3)
	expectChosen(t, g, 2, 5)
	expectChosen(t, g, 3, 3)
	expectExtracted(t, g, 3, "~5")
}

// Whichever class is asked first, each node but the dear first ones leads to
// one that is not reckoned yet; the only cheap way out is the last node.
func TestClassesThatLeadBackAllRound(t *testing.T) {
	for way := range 5 {
		g := graphOf(eVar(0), eOp(impl.OpDiv, 0, 0), eOp(impl.OpDiv, 0, 1), eOp(impl.OpDiv, 0, 2), eOp(impl.OpDiv, 0, 3))
		for k := range 4 {
			g.Nodes, g.Parts = append(g.Nodes, eOp(impl.OpNeg, 1+(k+1)%4)), append(g.Parts, 1+k)
		}
		want := []int{1, 22, 22 + 2 + 2 + 2, 22 + 2 + 2, 22 + 2}
		texts := []string{"a", "(a/a)", "~~~(a/a)", "~~(a/a)", "~(a/a)"}
		if way > 0 {
			g.Nodes, g.Parts = append(g.Nodes, eVar(1)), append(g.Parts, way)
			for step := range 4 {
				class := 1 + (way-1+4-step)%4
				want[class] = 1 + 2*step
				texts[class] = written(negated(variable(1), step))
			}
		}
		expectBest(t, g, want...)
		for class, s := range texts {
			expectExtracted(t, g, class, s)
		}
		expectAsTheModelTells(t, g)
	}
}

// backwards has so many dear classes, each with ~ of the next one too, and in
// the last one b: what is cheap comes from behind, class by class.
func backwards(count int) impl.EGraph {
	g := graphOf(eVar(0))
	for k := range count {
		g = withNodes(g, eOp(impl.OpDiv, k, k))
	}
	for k := 1; k < count; k++ {
		g.Nodes, g.Parts = append(g.Nodes, eOp(impl.OpNeg, k+1)), append(g.Parts, k)
	}
	g.Nodes, g.Parts = append(g.Nodes, eVar(1)), append(g.Parts, count)
	return g
}

func TestWhatIsCheapComesFromBehind(t *testing.T) {
	for _, count := range []int{1, 2, 3, 20, 41, 59} {
		g := backwards(count)
		want := []int{1}
		for k, dear := 1, 22; k <= count; k, dear = k+1, 2*min(dear, bound)+20 {
			away := count - k
			want = append(want, min(dear, 1+2*away))
			switch {
			case dear <= 1+2*away:
				expectChosen(t, g, k, k)
			case away < impl.MaxNodes:
				expectChosen(t, g, k, count+k)
				expectExtracted(t, g, k, written(negated(variable(1), away)))
			default:
				expectChosen(t, g, k, count+k)
				expectNotExtracted(t, "too many nodes", g, k)
			}
		}
		expectBest(t, g, want...)
		expectAsTheModelTells(t, g)
	}
}

// doubling has a, (a+a), and of each the sum with itself: class k costs 3 times
// 2 to the k, less 2.
func doubling(count int) impl.EGraph {
	g := graphOf(eVar(0))
	for k := range count - 1 {
		g = withNodes(g, eOp(impl.OpAdd, k, k))
	}
	return g
}

func TestCostsThatDouble(t *testing.T) {
	g := doubling(impl.MaxENodes)
	var want []int
	for k := range impl.MaxENodes {
		if k < 49 {
			want = append(want, 3<<k-2)
		} else {
			want = append(want, bound)
		}
		expectChosen(t, g, k, k)
	}
	expectBest(t, g, want...)
	expectExtracted(t, g, 4, "((((a+a)+(a+a))+((a+a)+(a+a)))+(((a+a)+(a+a))+((a+a)+(a+a))))")
	for k := 5; k < impl.MaxENodes; k++ {
		expectNotExtracted(t, "too many nodes", g, k)
	}
}

// putCost puts a class behind whose one term costs just so much, upon doubling(49).
func putCost(g impl.EGraph, cost int) (impl.EGraph, int) {
	class, over := 0, map[int]int{0: 2, 1: 0, 2: 4}[cost%3]
	rest := (cost - over - 1) / 3
	for k := range 49 {
		if rest>>k&1 == 1 {
			g, class = putByTable(g, eOp(impl.OpSub, class, k))
		}
	}
	for range over / 2 {
		g, class = putByTable(g, eOp(impl.OpNeg, class))
	}
	return g, class
}

func bestOf(t *testing.T, g impl.EGraph, class int) int {
	t.Helper()
	best, _ := impl.BestCosts(g)
	return best[slices.Index(classesOf(g), class)]
}

func TestCostsAtTheBound(t *testing.T) {
	for off := -40; off <= 40; off++ {
		g, class := putCost(doubling(49), bound+off)
		if cost := boundless(g)[class]; cost.Cmp(big.NewInt(int64(bound+off))) != 0 {
			t.Fatalf("the class costs %v, not %d", cost, bound+off)
		}
		// A node over it may be what makes it that much.
		for _, above := range []struct{ op, more int }{{impl.OpNeg, 2}, {impl.OpAdd, 3}, {impl.OpMul, 5}, {impl.OpIf, 5}, {impl.OpDiv, 21}} {
			arity, _ := impl.ArityOf(above.op)
			h, over := putByTable(g, eOp(above.op, append([]int{class}, make([]int, arity-1)...)...))
			expectBest(t, h, wantBest(h)...)
			if got := bestOf(t, h, class); got != min(bound+off, bound) {
				t.Errorf("off by %d: got %d", off, got)
			}
			if got := bestOf(t, h, over); got != min(bound+off+above.more, bound) {
				t.Errorf("op %d, off by %d: got %d", above.op, off, got)
			}
		}
	}
}

func TestSumsOfCostsAtTheBound(t *testing.T) {
	for _, cost := range []int{bound - 1, bound, bound + 1, bound / 2, bound/2 - 1, bound/2 - 2, bound / 3, bound/3 - 1, bound/3 - 2} {
		g, class := putCost(doubling(49), cost)
		for _, n := range []impl.ENode{eOp(impl.OpAdd, class, class), eOp(impl.OpMul, class, 0), eOp(impl.OpIf, class, class, class), eOp(impl.OpIf, 0, class, class)} {
			sum := costsTold[n.Op]
			for _, kid := range n.Kids {
				sum += map[bool]int{true: cost, false: 1}[kid == class]
			}
			h, over := putByTable(g, n)
			if got := bestOf(t, h, over); got != min(sum, bound) {
				t.Errorf("%v over %d: got %d, want %d", n, cost, got, min(sum, bound))
			}
			expectChosen(t, h, over, over)
			expectNotExtracted(t, "too many nodes", h, over)
			expectBest(t, h, wantBest(h)...)
		}
	}
}

// Of two nodes the first one costs less in truth, or more, but both reach the bound.
func TestChoicesAtTheBound(t *testing.T) {
	for _, c := range []struct {
		first, second int
		firstIs       bool
	}{
		{bound, bound + 1, true}, {bound + 1, bound, true}, {bound, bound, true}, {bound + 30, bound, true}, {bound, bound - 1, false},
		{bound + 30, bound - 1, false}, {bound - 1, bound, true}, {bound - 1, bound - 1, true}, {bound - 1, bound - 2, false}, {bound - 2, bound - 1, true},
	} {
		g, first := putCost(doubling(49), c.first-2)
		g, second := putCost(g, c.second-5)
		least := len(g.Nodes)
		g.Nodes = append(g.Nodes, eOp(impl.OpNeg, first), eOp(impl.OpIf, second, 0, 0))
		g.Parts = append(g.Parts, least, least)
		want := least
		if !c.firstIs {
			want = least + 1
		}
		expectChosen(t, g, least, want)
		if got := bestOf(t, g, least); got != min(c.first, c.second, bound) {
			t.Errorf("%d and %d: got %d", c.first, c.second, got)
		}
		expectNotExtracted(t, "too many nodes", g, least)
	}
}

// Of a class beyond the bound all nodes cost the same, also those that lead back.
func TestClassesBeyondTheBoundThatHoldThemselves(t *testing.T) {
	g := doubling(60)
	last := len(g.Nodes) - 1
	g.Nodes = append(g.Nodes, eOp(impl.OpNeg, last), eOp(impl.OpNeg, last), eOp(impl.OpNeg, last+1), eOp(impl.OpAdd, 0, last+1), eOp(impl.OpAdd, last, last+1))
	g.Parts = append(g.Parts, last+1, last+1, last, last, last+1)
	if !impl.GoodGraph(g) {
		t.Fatal("want a good graph")
	}
	expectAsTheModelTells(t, g)
	for _, class := range []int{last, last + 1} {
		expectChosen(t, g, class, class)
		expectNotExtracted(t, "beyond the bound", g, class)
		if got := bestOf(t, g, class); got != bound {
			t.Errorf("class %d: got %d", class, got)
		}
	}
	// A leaf at the end brings both back.
	g.Nodes, g.Parts = append(g.Nodes, eVar(2)), append(g.Parts, last+1)
	expectChosen(t, g, last, last+3)
	expectExtracted(t, g, last, "~c")
	expectChosen(t, g, last+1, last+6)
	expectExtracted(t, g, last+1, "c")
	expectAsTheModelTells(t, g)
}

// A class that has a node may have no term that is good.
func TestClassesWithoutATermThatIsGood(t *testing.T) {
	g := oneChain(impl.MaxENodes)
	var want []int
	for k := range impl.MaxENodes {
		want = append(want, 1+2*k)
		expectChosen(t, g, k, k)
		if k < impl.MaxNodes {
			expectExtracted(t, g, k, written(negated(variable(0), k)))
		} else {
			expectNotExtracted(t, "too many nodes", g, k)
		}
	}
	expectBest(t, g, want...)
	// 39 nodes in one part: the other one has room for none.
	for _, n := range []impl.ENode{eOp(impl.OpAdd, 38, 0), eOp(impl.OpAdd, 0, 38), eOp(impl.OpIf, 0, 37, 0), eOp(impl.OpIf, 37, 0, 0)} {
		full := withNodes(oneChain(60), n)
		expectChosen(t, full, 60, 60)
		expectNotExtracted(t, "one too many", full, 60)
		for k, kid := range n.Kids {
			n.Kids[k] = max(kid-1, 0)
		}
		fits := withNodes(oneChain(60), n)
		term, cost, ok := impl.Extract(fits, 60)
		if !ok || len(term) != impl.MaxNodes || cost != bestOf(t, fits, 60) {
			t.Errorf("%v: got %d nodes, cost %d, %v", n, len(term), cost, ok)
		}
	}
}

// The cheapest term is told, or none: not a dearer one of fewer nodes.
func TestTheCheapestTermHasTooManyNodes(t *testing.T) {
	chain := oneChain(impl.MaxNodes + 1)
	g := withNodes(chain, eOp(impl.OpDiv, 0, 0), eOp(impl.OpDiv, 41, 0), eOp(impl.OpDiv, 42, 0), eOp(impl.OpDiv, 43, 0))
	parts := aloneEach(len(g.Nodes))
	parts[44] = 40
	dearer := inParts(g, parts...)
	expectChosen(t, dearer, 40, 40)
	expectNotExtracted(t, "a dearer one would fit", dearer, 40)
	dear, _, _ := impl.ReadTerm("((((a/a)/a)/a)/a)")
	expectHeld(t, dearer, 40, dear, true)
	// At one cost, 81, the first one is taken, whether it fits or not.
	same := withNodes(chain, eOp(impl.OpDiv, 0, 0), eOp(impl.OpDiv, 41, 0), eOp(impl.OpDiv, 42, 5), eOp(impl.OpIf, 43, 0, 0))
	parts[44] = 40
	tied := inParts(same, parts...)
	if costs := boundless(same); costs[40].Int64() != 81 || costs[44].Int64() != 79 {
		t.Fatal("not the costs that are asked for", costs[40], costs[44])
	}
	expectChosen(t, tied, 40, 44)
	even := withNodes(chain, eOp(impl.OpDiv, 0, 0), eOp(impl.OpDiv, 41, 0), eOp(impl.OpDiv, 42, 6), eOp(impl.OpIf, 43, 0, 0))
	tied = inParts(even, parts...)
	expectBest(t, tied, wantBest(tied)...)
	expectChosen(t, tied, 40, 40)
	expectNotExtracted(t, "another one would fit", tied, 40)
}

func TestNumbersThatAreNoClassesToChoose(t *testing.T) {
	for _, k := range []int{1, 3, 5, 6, 7, -1, -2, impl.MaxENodes, impl.MaxENodes + 1, math.MinInt, math.MaxInt} {
		expectNoClass(t, "three classes", threeClasses(), k)
	}
	for _, g := range []impl.EGraph{graphOf(eVar(0)), sums(false), oneChain(impl.MaxENodes), inItself()} {
		for _, k := range []int{-1, -2, len(g.Nodes), len(g.Nodes) + 1, impl.MaxENodes, math.MinInt, math.MaxInt} {
			expectNoClass(t, "beyond the nodes", g, k)
		}
		for k, least := range g.Parts {
			if k != least {
				expectNoClass(t, "not the least of its class", g, k)
			}
		}
	}
}

func TestHoldsTerm(t *testing.T) {
	g := threeClasses()
	for s, class := range map[string]int{
		"a": 0, "1": 0, "b": 2, "2": 2, "(a+b)": 4, "(b+a)": 4,
		// There by joined classes alone.
		"(a+2)": 4, "(1+b)": 4, "(1+2)": 4, "(2+1)": 4,
		// Not there.
		"c": -1, "0": -1, "3": -1, "(a+a)": -1, "(a-b)": -1, "~a": -1, "((a+b)+b)": -1, "(1+3)": -1,
	} {
		for _, k := range []int{0, 2, 4} {
			expectHeld(t, g, k, ringTerm(t, s), k == class)
		}
	}
	apart := sums(false)
	expectHeld(t, apart, 2, ringTerm(t, "(a+b)"), true)
	expectHeld(t, apart, 2, ringTerm(t, "(a+a)"), false)
	expectHeld(t, apart, 2, ringTerm(t, "(b+b)"), false)
	for _, s := range []string{"(a+b)", "(a+a)", "(b+a)", "(b+b)"} {
		expectHeld(t, sums(true), 2, ringTerm(t, s), true)
		expectHeld(t, sums(true), 0, ringTerm(t, s), false)
		expectHeld(t, sums(true), 4, ringTerm(t, s), false)
	}
}

func TestHoldsTermsThatHoldThemselves(t *testing.T) {
	g := inItself()
	for times := range impl.MaxNodes {
		expectHeld(t, g, 0, negated(variable(0), times), true)
		expectHeld(t, g, 3, negated(variable(0), times), false)
		expectHeld(t, g, 0, negated(num(0), times), false)
		expectHeld(t, g, 3, negated(num(0), times), times == 0)
	}
	expectNotHeld(t, "one node too many", g, 0, negated(variable(0), impl.MaxNodes))
	for _, s := range []string{"(a+0)", "(0+~a)", "(~(a+a)+(0+(a+0)))"} {
		expectHeld(t, g, 0, ringTerm(t, s), true)
	}
	expectHeld(t, g, 0, ringTerm(t, "(0+0)"), false)
}

func TestNothingIsInTheEmptyGraph(t *testing.T) {
	for _, g := range []impl.EGraph{{}, {Nodes: []impl.ENode{}, Parts: []int{}}, {Nodes: make([]impl.ENode, 0, 3), Parts: make([]int, 0, 3)}} {
		expectBest(t, g)
		for _, k := range []int{-1, 0, 1, impl.MaxENodes} {
			expectNoClass(t, "the empty graph", g, k)
		}
	}
}

func TestNothingIsCheapInGraphsThatAreNotGood(t *testing.T) {
	for name, g := range badGraphs() {
		best, ok := impl.BestCosts(g)
		expectNoList(t, "BestCosts, "+name, best, ok)
		for _, k := range []int{0, 1, 2, -1, impl.MaxENodes} {
			expectNoClass(t, name, g, k)
		}
	}
}

func TestCheapestOfGoodGraphs(t *testing.T) {
	for _, g := range goodGraphs() {
		expectAsTheModelTells(t, g)
	}
}

// tangled has nodes of any op, some numbers of which are joined.
func tangled(r *rand.Rand, count, joinings int) impl.EGraph {
	var nodes []impl.ENode
	for k := range count {
		n := randomENode(r, k)
		if c := opsWithParts[r.Intn(len(opsWithParts))]; k > 3 && r.Intn(3) > 0 {
			n = impl.ENode{Op: c.op}
			for range c.arity {
				n.Kids = append(n.Kids, r.Intn(k))
			}
		}
		nodes = append(nodes, n)
	}
	o := onenessOf(aloneEach(count))
	for range joinings {
		o.tie(r.Intn(count), r.Intn(count))
	}
	return graphByTable(nodes, o.close().told())
}

// steep has classes whose costs grow as fast as they may, a few of them joined.
func steep(r *rand.Rand, count int) impl.EGraph {
	nodes := []impl.ENode{eVar(0), eVar(1), eVar(2)}
	for k := 3; k < count; k++ {
		c := opsWithParts[1+r.Intn(len(opsWithParts)-1)]
		n := impl.ENode{Op: c.op}
		for range c.arity {
			n.Kids = append(n.Kids, k-1-r.Intn(2))
		}
		nodes = append(nodes, n)
	}
	o := onenessOf(aloneEach(count))
	for range r.Intn(5) {
		a := r.Intn(count)
		o.tie(a, min(count-1, a+r.Intn(9)))
	}
	return graphByTable(nodes, o.close().told())
}

// leadsBack tells whether some node of a class has a kid from which the class is come to.
func leadsBack(g impl.EGraph) bool {
	o := make([][]bool, len(g.Nodes))
	for k := range o {
		o[k] = make([]bool, len(g.Nodes))
	}
	for k, n := range g.Nodes {
		for _, kid := range n.Kids {
			o[g.Parts[k]][kid] = true
		}
	}
	for by := range o {
		for from := range o {
			for to := range o {
				o[from][to] = o[from][to] || o[from][by] && o[by][to]
			}
		}
	}
	for k := range o {
		if o[k][k] {
			return true
		}
	}
	return false
}

func TestAnyGraphsAsTheModelTells(t *testing.T) {
	r := rand.New(rand.NewSource(102))
	back := 0
	for range 600 {
		count := 1 + r.Intn(25)
		g := tangled(r, count, r.Intn(1+count/2))
		expectAsTheModelTells(t, g)
		if leadsBack(g) {
			back++
		}
	}
	if back < 150 || back > 550 {
		t.Errorf("%d of 600 lead back: too much of one kind", back)
	}
	for range 300 {
		expectAsTheModelTells(t, randomGraph(r, 1+r.Intn(30)))
		expectAsTheModelTells(t, crowdedGraph(r, 1+r.Intn(impl.MaxENodes)))
	}
}

func TestSteepGraphsAsTheModelTells(t *testing.T) {
	r := rand.New(rand.NewSource(103))
	below, beyond := 0, 0
	for range 150 {
		g := steep(r, 3+r.Intn(impl.MaxENodes-2))
		expectAsTheModelTells(t, g)
		for _, cost := range wantBest(g) {
			if cost == bound {
				beyond++
			} else {
				below++
			}
		}
	}
	if below < 1000 || beyond < 1000 {
		t.Errorf("%d were below the bound, %d beyond it: too much of one kind", below, beyond)
	}
}

// costsHeld tells for each class, at its number, and each cost below most
// whether the class holds a term that costs just so much.
func costsHeld(g impl.EGraph, most int) [][]bool {
	held := make([][]bool, len(g.Nodes))
	for k := range held {
		held[k] = make([]bool, most)
	}
	for cost := range most {
		for k, n := range g.Nodes {
			if reaches(n.Kids, cost-costsTold[n.Op], held) {
				held[g.Parts[k]][cost] = true
			}
		}
	}
	return held
}

func reaches(kids []int, cost int, held [][]bool) bool {
	if cost < 0 || len(kids) == 0 {
		return cost == 0
	}
	for part := 1; part <= cost; part++ {
		if held[kids[0]][part] && reaches(kids[1:], cost-part, held) {
			return true
		}
	}
	return false
}

// Promise 10: no term that the class holds costs less, however it comes about.
func TestNoTermCostsLess(t *testing.T) {
	r := rand.New(rand.NewSource(104))
	const most = 30
	found := 0
	for range 300 {
		g := tangled(r, 1+r.Intn(20), r.Intn(9))
		held := costsHeld(g, most)
		best, ok := impl.BestCosts(g)
		for k, class := range classesOf(g) {
			least := slices.Index(held[class], true)
			if !ok || least != best[k] && (least >= 0 || best[k] < most) {
				t.Fatalf("class %d of %v costs %d, but there is a term that costs %d", class, g, best[k], least)
			}
			if least >= 0 {
				found++
			}
		}
	}
	if found < 1000 {
		t.Errorf("only %d classes had a term that costs so little", found)
	}
}

// heldTerm makes one of a class's terms, or none where it would be too great.
func heldTerm(r *rand.Rand, g impl.EGraph, class, depth int) []impl.Node {
	nodes, _ := impl.NodesIn(g, class)
	n := g.Nodes[nodes[r.Intn(len(nodes))]]
	if depth == 0 {
		return nil
	}
	var term []impl.Node
	for _, kid := range n.Kids {
		part := heldTerm(r, g, kid, depth-1)
		if part == nil {
			return nil
		}
		term = append(term, part...)
	}
	if len(term) >= impl.MaxNodes {
		return nil
	}
	return append(term, impl.Node{Op: n.Op, N: n.N})
}

// Promise 10: what is extracted is in its class, and no term that is met there costs less.
func TestWhatIsExtractedIsInItsClass(t *testing.T) {
	r := rand.New(rand.NewSource(105))
	extracted, met := 0, 0
	for range 200 {
		g := tangled(r, 1+r.Intn(30), r.Intn(12))
		if r.Intn(2) == 0 {
			g, _, _, _ = impl.Saturate(graphToGrow(r), impl.ShippedRules(), 4, 60)
		}
		best, _ := impl.BestCosts(g)
		for k, class := range classesOf(g) {
			if term, cost, ok := impl.Extract(g, class); ok {
				extracted++
				expectHeld(t, g, class, term, true)
				expectCost(t, term, cost)
				if cost != best[k] {
					t.Fatalf("%s costs %d, and its class %d", written(term), cost, best[k])
				}
				chosen, _ := impl.ChosenIn(g, class)
				if root := term[len(term)-1]; g.Parts[chosen] != class || g.Nodes[chosen].Op != root.Op || g.Nodes[chosen].N != root.N {
					t.Fatalf("%s is not of node %d, %v", written(term), chosen, g.Nodes[chosen])
				}
			}
			for range 5 {
				term := heldTerm(r, g, class, 6)
				if term == nil {
					continue
				}
				met++
				expectHeld(t, g, class, term, true)
				if cost, ok := impl.CostOf(term); !ok || cost < best[k] {
					t.Fatalf("%s costs %d, and its class %d", written(term), cost, best[k])
				}
			}
		}
	}
	if extracted < 1000 || met < 5000 {
		t.Errorf("%d were extracted, %d met: too few", extracted, met)
	}
}

// What right rules make of a term, and what is extracted then, comes to the
// same, traps and all, and costs no more.
func TestWhatIsExtractedComesToTheSame(t *testing.T) {
	r := rand.New(rand.NewSource(106))
	cheaper := 0
	for range 150 {
		term := fewLeaves(r, randomTerm(r, 1+r.Intn(25)))
		g, class, _ := impl.AddTerm(impl.EGraph{}, term)
		grown, _, _, _ := impl.Saturate(g, impl.ShippedRules(), 3, impl.MaxENodes)
		got, cost, ok := impl.Extract(grown, grown.Parts[class])
		was, _ := impl.CostOf(term)
		if !ok || cost > was {
			if ok || len(got) != 0 || bestOf(t, grown, grown.Parts[class]) > was {
				t.Fatalf("%s costs %d, and %v, %v, costs %d", written(term), was, got, ok, cost)
			}
			continue
		}
		if cost < was {
			cheaper++
		}
		for range 10 {
			env := randomEnv(r)
			n, traps, _ := impl.EvalTerm(term, env)
			if m, also, _ := impl.EvalTerm(got, env); n != m || traps != also {
				t.Fatalf("%s and %s at %v: %d, %v and %d, %v", written(term), written(got), env, n, traps, m, also)
			}
		}
	}
	if cheaper < 20 {
		t.Errorf("only %d were made cheaper", cheaper)
	}
}

func TestExtractingWhatGrewCheaper(t *testing.T) {
	for s, want := range map[string]string{
		"((a*1)+0)":         "a",
		"~~(b-0)":           "b",
		"(1?(a/1):(b/0))":   "a",
		"(0?(a/0):~~(b*1))": "b",
		"(a*2)":             "(a<<1)",
		"((a*c)+(b*c))":     "((a+b)*c)",
		"((a*-1)*-1)":       "a",
	} {
		g, class, _ := impl.AddTerm(impl.EGraph{}, ringTerm(t, s))
		grown, _, _, _ := impl.Saturate(g, impl.ShippedRules(), impl.MaxRounds, impl.MaxENodes)
		_, cost, ok := impl.Extract(grown, grown.Parts[class])
		term := ringTerm(t, want)
		if !ok || cost != costFrom(term, len(term)-1) {
			t.Errorf("%s: got cost %d, %v, want that of %s", s, cost, ok, want)
		}
		expectHeld(t, grown, grown.Parts[class], term, true)
	}
}

// knotted has MaxENodes nodes of which each class's second one leads to the class behind.
func knotted() impl.EGraph {
	g := backwards(impl.MaxENodes/2 - 1)
	g.Nodes, g.Parts = append(g.Nodes, eOp(impl.OpIf, 1, 2, 3)), append(g.Parts, 1)
	return g
}

// What takes too long is given up, so that the tests come to their end.
func TestGraphsOfMaxENodesTakeNoLongTime(t *testing.T) {
	r := rand.New(rand.NewSource(107))
	graphs := []impl.EGraph{doubling(impl.MaxENodes), oneChain(impl.MaxENodes), manyNumbers(impl.MaxENodes), knotted(), square(10, 110),
		tangled(r, impl.MaxENodes, 20), tangled(r, impl.MaxENodes, 60), steep(r, impl.MaxENodes), crowdedGraph(r, impl.MaxENodes)}
	done := make(chan struct{})
	go func() {
		defer close(done)
		for _, g := range graphs {
			if len(g.Nodes) != impl.MaxENodes {
				t.Errorf("want MaxENodes nodes, not %d", len(g.Nodes))
			}
			for range 20 {
				impl.BestCosts(g)
				for k := range g.Nodes {
					impl.ChosenIn(g, k)
					impl.Extract(g, k)
				}
			}
			expectAsTheModelTells(t, g)
		}
	}()
	select {
	case <-done:
	case <-time.After(time.Minute):
		t.Fatal("the answers take too long")
	}
}

func TestCostsChangeNothingThatIsHandedIn(t *testing.T) {
	r := rand.New(rand.NewSource(108))
	before := map[string]impl.EGraph{"tangled": tangled(r, 30, 9), "steep": steep(r, 70), "in itself": inItself(), "backwards": backwards(50)}
	for name, g := range goodGraphs() {
		before[name] = g
	}
	for name, g := range badGraphs() {
		before["bad: "+name] = g
	}
	terms := [][]impl.Node{variable(0), ringTerm(t, "(a+b)"), negated(variable(0), 39), negated(variable(0), 40), nil}
	for name, was := range before {
		for _, term := range terms {
			g, asked := graphWithTail(was), withTail(term)
			impl.CostOf(asked)
			best, _ := impl.BestCosts(g)
			spoilNumbers(best)
			for _, k := range []int{-1, 0, 1, 2, len(was.Nodes) - 1, len(was.Nodes)} {
				impl.ChosenIn(g, k)
				impl.HoldsTerm(g, k, asked)
				extracted, _, _ := impl.Extract(g, k)
				spoil(extracted)
			}
			expectTail(t, name, g, was)
			if !slices.Equal(asked[:cap(asked)], withTail(term)[:cap(asked)]) {
				t.Fatalf("%s: the term is %v, was %v", name, asked[:cap(asked)], term)
			}
		}
	}
}

// What was answered is written over, and nothing of it is met again.
func TestWhatIsExtractedIsNewMemory(t *testing.T) {
	r := rand.New(rand.NewSource(109))
	for range 30 {
		g := tangled(r, 1+r.Intn(30), r.Intn(9))
		for range 3 {
			expectAsTheModelTells(t, g)
			first, _ := impl.BestCosts(g)
			second, _ := impl.BestCosts(g)
			expectListsApart(t, "BestCosts", [][]int{first, second})
			spoilNumbers(first)
			spoilNumbers(second)
			for _, class := range classesOf(g) {
				one, _, _ := impl.Extract(g, class)
				other, _, _ := impl.Extract(g, class)
				kept := slices.Clone(other)
				spoil(one)
				if !slices.Equal(other, kept) {
					t.Fatalf("two answers of class %d share memory", class)
				}
				spoil(other)
			}
		}
	}
}

func TestNothingLiesBehindWhatIsExtracted(t *testing.T) {
	for _, g := range []impl.EGraph{doubling(20), oneChain(impl.MaxENodes), inItself(), backwards(30)} {
		best, _ := impl.BestCosts(g)
		for _, cost := range best[:cap(best)][len(best):] {
			if cost != 0 {
				t.Errorf("%d lies behind the costs", cost)
			}
		}
		for _, class := range classesOf(g) {
			term, _, ok := impl.Extract(g, class)
			if !ok && cap(term) > 0 {
				t.Errorf("class %d: %v is handed out beside false", class, term[:cap(term)])
			}
			for _, n := range term[:cap(term)][len(term):] {
				if n != (impl.Node{}) {
					t.Errorf("class %d: %v lies behind the term", class, n)
				}
			}
		}
	}
}

func TestCostsReadNothingBehindTheLength(t *testing.T) {
	sum := ringTerm(t, "(a+b)")
	expectCost(t, sum[:1], 1)
	if cost, ok := impl.CostOf(sum[:2]); cost != 0 || ok {
		t.Errorf("a piece of a term: got %d, %v", cost, ok)
	}
	g := sums(false)
	less := impl.EGraph{Nodes: g.Nodes[:3], Parts: g.Parts[:3]}
	expectBest(t, less, 1, 1, 4)
	expectHeld(t, less, 2, sum, true)
	expectHeld(t, less, 2, ringTerm(t, "(a+a)"), false)
	expectNoClass(t, "behind the length", less, 3)
	expectNoClass(t, "behind the length", less, 4)
	expectHeld(t, less, 0, sum[:1], true)
	expectNotHeld(t, "a piece of a term", less, 0, sum[:2])
}
