package tests

import (
	"math"
	"math/rand"
	"slices"
	"testing"

	"loop.example/g00694/impl"
)

func bindOf(classes ...int) []int {
	for len(classes) < impl.MaxVars {
		classes = append(classes, -1)
	}
	return classes
}

// partsOf has the places of the roots of a term's parts.
func partsOf(t []impl.Node, root int) []int {
	arity, _ := impl.ArityOf(t[root].Op)
	roots := make([]int, arity)
	for k, at := arity-1, root-1; k >= 0; k-- {
		roots[k] = at
		part, _ := impl.PartAt(t, at)
		at -= len(part)
	}
	return roots
}

// matchesByTheWords looks at all nodes of a class for each node of the pattern.
func matchesByTheWords(g impl.EGraph, t []impl.Node, root, class int, bind []int) bool {
	if t[root].Op == impl.OpVar {
		return bind[t[root].N] == class
	}
	for k, n := range g.Nodes {
		if g.Parts[k] != class || n.Op != t[root].Op || n.N != t[root].N {
			continue
		}
		all := true
		for i, at := range partsOf(t, root) {
			all = all && matchesByTheWords(g, t, at, n.Kids[i], bind)
		}
		if all {
			return true
		}
	}
	return false
}

// bindsByLists makes the lists of all binds of each part, whatever the others
// have, and takes of these what agrees; a bind may come several times.
func bindsByLists(g impl.EGraph, t []impl.Node, root, class int) [][]int {
	if t[root].Op == impl.OpVar {
		bind := bindOf()
		bind[t[root].N] = class
		return [][]int{bind}
	}
	var all [][]int
	for k, n := range g.Nodes {
		if g.Parts[k] != class || n.Op != t[root].Op || n.N != t[root].N {
			continue
		}
		binds := [][]int{bindOf()}
		for i, at := range partsOf(t, root) {
			binds = agreeing(binds, bindsByLists(g, t, at, n.Kids[i]))
		}
		all = append(all, binds...)
	}
	return all
}

func agreeing(first, second [][]int) [][]int {
	var all [][]int
	for _, a := range first {
		for _, b := range second {
			both, agree := slices.Clone(a), true
			for v, class := range b {
				agree = agree && (class < 0 || a[v] < 0 || a[v] == class)
				both[v] = max(both[v], class)
			}
			if agree {
				all = append(all, both)
			}
		}
	}
	return all
}

func eachOnce(binds [][]int) [][]int {
	var once [][]int
	for _, b := range binds {
		if !slices.ContainsFunc(once, func(o []int) bool { return slices.Equal(o, b) }) {
			once = append(once, b)
		}
	}
	return once
}

func wantBinds(g impl.EGraph, t []impl.Node, class int) [][]int {
	once := eachOnce(bindsByLists(g, t, len(t)-1, class))
	return once[:min(len(once), impl.MaxBinds)]
}

func sameBinds(a, b [][]int) bool { return slices.EqualFunc(a, b, slices.Equal) }

func expectBinds(t *testing.T, g impl.EGraph, term []impl.Node, class int, want ...[]int) {
	t.Helper()
	got, ok := impl.MatchAt(g, term, class)
	if !ok || !sameBinds(got, want) {
		t.Errorf("MatchAt of %s at %d: got %v, %v, want %v, true", written(term), class, got, ok, want)
	}
}

func expectNoBinds(t *testing.T, what string, g impl.EGraph, term []impl.Node, class int) {
	t.Helper()
	if got, ok := impl.MatchAt(g, term, class); ok || len(got) != 0 {
		t.Errorf("MatchAt, %s: got %v, %v, want none, false", what, got, ok)
	}
}

func sameFound(a, b impl.Found) bool { return a.Class == b.Class && slices.Equal(a.Bind, b.Bind) }

func expectAll(t *testing.T, g impl.EGraph, term []impl.Node, want ...impl.Found) {
	t.Helper()
	got, ok := impl.AllMatches(g, term)
	if !ok || !slices.EqualFunc(got, want, sameFound) {
		t.Errorf("AllMatches of %s: got %v, %v, want %v, true", written(term), got, ok, want)
	}
}

func expectNoneOfAll(t *testing.T, what string, g impl.EGraph, term []impl.Node) {
	t.Helper()
	if got, ok := impl.AllMatches(g, term); ok || len(got) != 0 {
		t.Errorf("AllMatches, %s: got %v, %v, want none, false", what, got, ok)
	}
}

func expectIs(t *testing.T, g impl.EGraph, term []impl.Node, class int, bind []int, want bool) {
	t.Helper()
	if is, ok := impl.IsMatch(g, term, class, bind); is != want || !ok {
		t.Errorf("IsMatch of %s at %d with %v: got %v, %v, want %v, true", written(term), class, bind, is, ok, want)
	}
}

func expectNotToBeAsked(t *testing.T, what string, g impl.EGraph, term []impl.Node, class int, bind []int) {
	t.Helper()
	if is, ok := impl.IsMatch(g, term, class, bind); is || ok {
		t.Errorf("IsMatch, %s: got %v, %v, want false, false", what, is, ok)
	}
}

func expectInst(t *testing.T, g impl.EGraph, term []impl.Node, bind []int, want impl.EGraph, class int) {
	t.Helper()
	got, k, ok := impl.InstOf(g, term, bind)
	expectGraph(t, "InstOf "+written(term), got, ok, want)
	if k != class {
		t.Errorf("InstOf %s with %v: class %d, want %d", written(term), bind, k, class)
	}
}

func expectNoInst(t *testing.T, what string, g impl.EGraph, term []impl.Node, bind []int) {
	t.Helper()
	got, k, ok := impl.InstOf(g, term, bind)
	expectNoGraph(t, "InstOf, "+what, got, ok)
	if k != 0 {
		t.Errorf("InstOf, %s: class %d, want 0", what, k)
	}
}

// square has side numbers, and behind them sums of each with each, in order,
// the first count of them, all in one class.
func square(side, count int) impl.EGraph {
	g := manyNumbers(side)
	for k := range count {
		g.Nodes = append(g.Nodes, eOp(impl.OpAdd, k/side, k%side))
		g.Parts = append(g.Parts, side)
	}
	return g
}

// squareBinds are those of (a+b) at the class of sums.
func squareBinds(side, count int) [][]int {
	var binds [][]int
	for k := range count {
		binds = append(binds, bindOf(k/side, k%side))
	}
	return binds
}

// inItself has one class that holds a, ~ of the class, and sums with itself.
func inItself() impl.EGraph {
	return impl.EGraph{
		Nodes: []impl.ENode{eVar(0), eOp(impl.OpNeg, 0), eOp(impl.OpAdd, 0, 0), eNum(0), eOp(impl.OpAdd, 0, 3), eOp(impl.OpAdd, 3, 0)},
		Parts: []int{0, 0, 0, 3, 0, 0},
	}
}

// manyAlike has one class of nodes that are alike but for the first.
func manyAlike(count int, n impl.ENode) impl.EGraph {
	g := impl.EGraph{Nodes: []impl.ENode{eVar(0)}, Parts: make([]int, count)}
	for range count - 1 {
		g.Nodes = append(g.Nodes, n)
	}
	return g
}

// crowdedGraph has some numbers, and few other classes with many nodes each,
// some of them alike: what is not there yet comes into any of these.
func crowdedGraph(r *rand.Rand, count int) impl.EGraph {
	g := manyNumbers(min(count, 8))
	classes := slices.Clone(g.Parts)
	for k := len(g.Nodes); k < count; k++ {
		c := opsWithParts[[]int{0, 1, 1, 3, 8}[r.Intn(5)]]
		n := impl.ENode{Op: c.op}
		for range c.arity {
			n.Kids = append(n.Kids, classes[r.Intn(len(classes))])
		}
		class := classes[len(classes)-1-r.Intn(2)]
		if len(classes) < 10 {
			class = k
		}
		for other, have := range g.Nodes {
			if sameENode(have, n) {
				class = g.Parts[other]
			}
		}
		if class == k {
			classes = append(classes, k)
		}
		g.Nodes, g.Parts = append(g.Nodes, n), append(g.Parts, class)
	}
	return g
}

// A patternMaker goes down from a class as far as it may, so that the pattern
// is found there, but for variables that were taken for another class ahead.
type patternMaker struct {
	r    *rand.Rand
	g    impl.EGraph
	next int64
}

func randomPattern(r *rand.Rand, g impl.EGraph, class, nodes int) []impl.Node {
	m := patternMaker{r, g, 0}
	return m.from(class, nodes)
}

func (m *patternMaker) variable() []impl.Node {
	if m.next < impl.MaxVars && m.r.Intn(5) > 0 {
		m.next++
		return variable(m.next - 1)
	}
	return variable(int64(m.r.Intn(impl.MaxVars)))
}

func (m *patternMaker) from(class, nodes int) []impl.Node {
	var in []impl.ENode
	for k, n := range m.g.Nodes {
		if m.g.Parts[k] == class && len(n.Kids) < nodes && n.Op != impl.OpVar {
			in = append(in, n)
		}
	}
	if len(in) == 0 || m.r.Intn(8) == 0 {
		return m.variable()
	}
	n := in[m.r.Intn(len(in))]
	if n.Op == impl.OpNum && m.r.Intn(3) > 0 {
		return m.variable()
	}
	var term []impl.Node
	for i, kid := range n.Kids {
		room := nodes - 1 - len(term) - (len(n.Kids) - 1 - i)
		term = append(term, m.from(kid, room)...)
	}
	return append(term, impl.Node{Op: n.Op, N: n.N})
}

func TestMaxPatternAndMaxBinds(t *testing.T) {
	if impl.MaxPattern != 7 || impl.MaxBinds != 60 {
		t.Errorf("MaxPattern %d and MaxBinds %d, want 7 and 60", impl.MaxPattern, impl.MaxBinds)
	}
}

func TestGoodPattern(t *testing.T) {
	for _, s := range []string{"a", "d", "0", "-9223372036854775808", "~~~~~~a", "((a+b)+(c+d))", "(a?b:(c?d:a))", "(~a?~b:~c)", "((a/0)<<(1<2))"} {
		if !impl.GoodPattern(ringTerm(t, s)) {
			t.Errorf("%s: want a pattern", s)
		}
	}
	for _, s := range []string{"~~~~~~~a", "~((a+b)+(c+d))", "((a+b)+(c+~d))", "(~a?~b:~~c)", "(a?b:(c?d:(a?b:c)))"} {
		if impl.GoodPattern(ringTerm(t, s)) {
			t.Errorf("%s: want no pattern", s)
		}
	}
	for name, term := range badTerms() {
		if impl.GoodPattern(term) {
			t.Errorf("%s: want no pattern", name)
		}
	}
	r := rand.New(rand.NewSource(80))
	for nodes := 1; nodes <= impl.MaxNodes+2; nodes++ {
		for range 20 {
			if term := randomTerm(r, nodes); impl.GoodPattern(term) != (nodes <= impl.MaxPattern) {
				t.Errorf("GoodPattern of %d nodes: %s", nodes, written(term))
			}
		}
	}
	whole := ringTerm(t, "(a+b)")
	if impl.GoodPattern(whole[:2]) || !impl.GoodPattern(whole[:1]) || impl.GoodPattern(whole[:0]) {
		t.Error("a piece of a pattern is taken for the whole")
	}
}

func TestAVariableAloneIsInEachClass(t *testing.T) {
	for _, g := range []impl.EGraph{sums(false), sums(true), inItself()} {
		classes, _ := impl.ClassesIn(g)
		for v := range impl.MaxVars {
			var all []impl.Found
			for _, class := range classes {
				bind := bindOf()
				bind[v] = class
				expectBinds(t, g, variable(int64(v)), class, bind)
				all = append(all, impl.Found{Class: class, Bind: bind})
			}
			expectAll(t, g, variable(int64(v)), all...)
		}
	}
}

func TestANumberAloneIsInItsClass(t *testing.T) {
	g := sums(false)
	expectBinds(t, g, num(7), 4, bindOf())
	expectBinds(t, g, num(7), 0)
	expectBinds(t, g, num(8), 4)
	expectBinds(t, g, num(0), 0)
	expectAll(t, g, num(7), impl.Found{Class: 4, Bind: bindOf()})
	expectAll(t, g, num(-7))
	ends := graphOf(eNum(math.MinInt64), eNum(math.MaxInt64))
	expectAll(t, ends, num(math.MaxInt64), impl.Found{Class: 1, Bind: bindOf()})
	// The number 1 is no variable 1, and what stands for a variable is no node of the graph.
	expectBinds(t, graphOf(eVar(1)), num(1), 0)
	expectBinds(t, graphOf(eNum(1)), variable(1), 0, bindOf(-1, 0))
}

func TestMatchAt(t *testing.T) {
	g := sums(false)
	expectBinds(t, g, ringTerm(t, "(a+b)"), 2, bindOf(0, 1))
	expectBinds(t, g, ringTerm(t, "(b+a)"), 2, bindOf(1, 0))
	expectBinds(t, g, ringTerm(t, "(d+c)"), 2, bindOf(-1, -1, 1, 0))
	expectBinds(t, g, ringTerm(t, "(a+b)"), 3, bindOf(0, 0))
	for _, class := range []int{0, 1, 4} {
		expectBinds(t, g, ringTerm(t, "(a+b)"), class)
	}
	expectBinds(t, g, ringTerm(t, "(a-b)"), 2)
	expectBinds(t, g, ringTerm(t, "(a+7)"), 2)
	expectBinds(t, g, ringTerm(t, "~a"), 2)
	deep := graphOf(eVar(0), eNum(2), eOp(impl.OpMul, 0, 1), eOp(impl.OpNeg, 2), eOp(impl.OpIf, 3, 2, 0))
	expectBinds(t, deep, ringTerm(t, "(~(b*2)?a:c)"), 4, bindOf(2, 0, 0))
	expectBinds(t, deep, ringTerm(t, "(~(b*2)?a:b)"), 4, bindOf(2, 0))
	expectBinds(t, deep, ringTerm(t, "(~(b*2)?b:a)"), 4)
	expectBinds(t, deep, ringTerm(t, "(~(b*3)?a:b)"), 4)
	expectBinds(t, deep, ringTerm(t, "(a?b:c)"), 4, bindOf(3, 2, 0))
	expectBinds(t, deep, ringTerm(t, "(~a?(c*d):c)"), 4, bindOf(2, -1, 0, 1))
	expectAll(t, deep, ringTerm(t, "(a*2)"), impl.Found{Class: 2, Bind: bindOf(0)})
}

func TestPatternsOfEachOp(t *testing.T) {
	for _, c := range opsWithParts {
		var parts [][]impl.Node
		n := impl.ENode{Op: c.op}
		for v := range c.arity {
			parts = append(parts, variable(int64(v)))
			n.Kids = append(n.Kids, 2-v)
		}
		g := graphOf(eNum(5), eNum(6), eVar(0), n)
		term := joinedNodes(c.op, parts...)
		expectBinds(t, g, term, 3, bindOf(slices.Clone(n.Kids)...))
		expectInst(t, graphOf(g.Nodes[:3]...), term, bindOf(slices.Clone(n.Kids)...), g, 3)
		for _, other := range opsWithParts {
			if other.arity == c.arity && other.op != c.op {
				expectBinds(t, g, joinedNodes(other.op, parts...), 3)
			}
		}
	}
}

// A variable that is bound is asked, not bound again.
func TestVariablesThatAreMetTwice(t *testing.T) {
	g := sums(false)
	expectBinds(t, g, ringTerm(t, "(a+a)"), 2)
	expectBinds(t, g, ringTerm(t, "(a+a)"), 3, bindOf(0))
	expectBinds(t, g, ringTerm(t, "(d+d)"), 3, bindOf(-1, -1, -1, 0))
	expectAll(t, g, ringTerm(t, "(b+b)"), impl.Found{Class: 3, Bind: bindOf(-1, 0)})
	joined := sums(true)
	expectBinds(t, joined, ringTerm(t, "(a+a)"), 2, bindOf(0))
	expectBinds(t, joined, ringTerm(t, "(a+b)"), 2, bindOf(0, 0))
	// Met in unlike parts, the second time deeper or less deep.
	deep := graphOf(eVar(0), eVar(1), eOp(impl.OpAdd, 0, 1), eOp(impl.OpSub, 2, 0), eOp(impl.OpSub, 2, 1), eOp(impl.OpSub, 0, 2), eOp(impl.OpSub, 2, 2))
	expectAll(t, deep, ringTerm(t, "((a+b)-a)"), impl.Found{Class: 3, Bind: bindOf(0, 1)})
	expectAll(t, deep, ringTerm(t, "((a+b)-b)"), impl.Found{Class: 4, Bind: bindOf(0, 1)})
	expectAll(t, deep, ringTerm(t, "(a-(a+b))"), impl.Found{Class: 5, Bind: bindOf(0, 1)})
	expectAll(t, deep, ringTerm(t, "(b-(a+b))"))
	expectAll(t, deep, ringTerm(t, "((a+b)-(a+b))"), impl.Found{Class: 6, Bind: bindOf(0, 1)})
	expectAll(t, deep, ringTerm(t, "((a+b)-(b+a))"))
	expectAll(t, deep, ringTerm(t, "((a+b)-(c+d))"), impl.Found{Class: 6, Bind: bindOf(0, 1, 0, 1)})
}

// What the first node that is tried has bound does not hold for the next one.
func TestAVariableIsFreeAgainAtTheNextNode(t *testing.T) {
	g := impl.EGraph{
		Nodes: []impl.ENode{eVar(0), eVar(1), eVar(2), eOp(impl.OpIf, 0, 1, 2), eOp(impl.OpIf, 1, 2, 1), eOp(impl.OpIf, 2, 0, 0), eOp(impl.OpIf, 2, 1, 2)},
		Parts: []int{0, 1, 2, 3, 3, 3, 3},
	}
	expectBinds(t, g, ringTerm(t, "(a?b:c)"), 3, bindOf(0, 1, 2), bindOf(1, 2, 1), bindOf(2, 0, 0), bindOf(2, 1, 2))
	expectBinds(t, g, ringTerm(t, "(a?b:a)"), 3, bindOf(1, 2), bindOf(2, 1))
	expectBinds(t, g, ringTerm(t, "(a?b:b)"), 3, bindOf(2, 0))
	expectBinds(t, g, ringTerm(t, "(a?a:b)"), 3)
	expectBinds(t, g, ringTerm(t, "(c?b:a)"), 3, bindOf(2, 1, 0), bindOf(1, 2, 1), bindOf(0, 0, 2), bindOf(2, 1, 2))
}

func TestClassesThatHoldThemselves(t *testing.T) {
	g := inItself()
	expectBinds(t, g, ringTerm(t, "~a"), 0, bindOf(0))
	expectBinds(t, g, ringTerm(t, "~~~~~~a"), 0, bindOf(0))
	expectBinds(t, g, ringTerm(t, "(a+b)"), 0, bindOf(0, 0), bindOf(0, 3), bindOf(3, 0))
	expectBinds(t, g, ringTerm(t, "(a+a)"), 0, bindOf(0))
	expectBinds(t, g, ringTerm(t, "((a+b)+c)"), 0,
		bindOf(0, 0, 0), bindOf(0, 3, 0), bindOf(3, 0, 0), bindOf(0, 0, 3), bindOf(0, 3, 3), bindOf(3, 0, 3))
	expectBinds(t, g, ringTerm(t, "((a+b)+a)"), 0, bindOf(0, 0), bindOf(0, 3), bindOf(3, 0))
	expectBinds(t, g, ringTerm(t, "(c+(a+b))"), 0,
		bindOf(0, 0, 0), bindOf(0, 3, 0), bindOf(3, 0, 0), bindOf(0, 0, 3), bindOf(0, 3, 3), bindOf(3, 0, 3))
	expectBinds(t, g, ringTerm(t, "(0+(~a+b))"), 0, bindOf(0, 0), bindOf(0, 3))
	expectBinds(t, g, ringTerm(t, "(a+0)"), 0, bindOf(0))
	expectBinds(t, g, ringTerm(t, "(0+0)"), 0)
	expectBinds(t, g, ringTerm(t, "(a+b)"), 3)
	chain := goodGraphs()["MaxENodes in one class"]
	expectAll(t, chain, ringTerm(t, "~~~~~~d"), impl.Found{Class: 0, Bind: bindOf(-1, -1, -1, 0)})
}

func TestTheOrderOfBinds(t *testing.T) {
	// The class 4 has (a+b), ~c and (b+a), and the class 5 (c+d) and (d+c).
	g := impl.EGraph{
		Nodes: []impl.ENode{eVar(0), eVar(1), eVar(2), eVar(3), eOp(impl.OpAdd, 0, 1), eOp(impl.OpAdd, 2, 3),
			eOp(impl.OpNeg, 2), eOp(impl.OpAdd, 3, 2), eOp(impl.OpAdd, 1, 0), eOp(impl.OpMul, 5, 4), eOp(impl.OpMul, 4, 5)},
		Parts: []int{0, 1, 2, 3, 4, 5, 4, 5, 4, 9, 9},
	}
	expectBinds(t, g, ringTerm(t, "(a+b)"), 4, bindOf(0, 1), bindOf(1, 0))
	expectBinds(t, g, ringTerm(t, "((a+b)*(c+d))"), 9,
		bindOf(2, 3, 0, 1), bindOf(2, 3, 1, 0), bindOf(3, 2, 0, 1), bindOf(3, 2, 1, 0),
		bindOf(0, 1, 2, 3), bindOf(0, 1, 3, 2), bindOf(1, 0, 2, 3), bindOf(1, 0, 3, 2))
	expectBinds(t, g, ringTerm(t, "((d+c)*a)"), 9,
		bindOf(4, -1, 3, 2), bindOf(4, -1, 2, 3), bindOf(5, -1, 1, 0), bindOf(5, -1, 0, 1))
	expectBinds(t, g, ringTerm(t, "(a*(b+c))"), 9,
		bindOf(5, 0, 1), bindOf(5, 1, 0), bindOf(4, 2, 3), bindOf(4, 3, 2))
	expectAll(t, g, ringTerm(t, "(a+b)"), impl.Found{Class: 4, Bind: bindOf(0, 1)}, impl.Found{Class: 4, Bind: bindOf(1, 0)},
		impl.Found{Class: 5, Bind: bindOf(2, 3)}, impl.Found{Class: 5, Bind: bindOf(3, 2)})
}

func TestEachBindComesOnce(t *testing.T) {
	g := impl.EGraph{
		Nodes: []impl.ENode{eVar(0), eVar(1), eOp(impl.OpAdd, 1, 0), eOp(impl.OpAdd, 0, 1), eOp(impl.OpAdd, 1, 0), eOp(impl.OpAdd, 0, 1), eNum(3), eNum(3), eVar(1)},
		Parts: []int{0, 1, 2, 2, 2, 2, 6, 6, 1},
	}
	expectBinds(t, g, ringTerm(t, "(a+b)"), 2, bindOf(1, 0), bindOf(0, 1))
	expectBinds(t, g, num(3), 6, bindOf())
	expectBinds(t, g, variable(3), 1, bindOf(-1, -1, -1, 1))
	// Numbers in the pattern: one bind though several nodes have it.
	zeros := impl.EGraph{Nodes: []impl.ENode{eNum(0), eNum(0), eOp(impl.OpAdd, 0, 0), eOp(impl.OpAdd, 0, 0)}, Parts: []int{0, 0, 2, 2}}
	expectAll(t, zeros, ringTerm(t, "(0+0)"), impl.Found{Class: 2, Bind: bindOf()})
	expectAll(t, zeros, ringTerm(t, "(0+a)"), impl.Found{Class: 2, Bind: bindOf(0)})
}

// The nodes that are alike would multiply with each level of the pattern.
func TestManyNodesThatAreAlike(t *testing.T) {
	neg := manyAlike(impl.MaxENodes, eOp(impl.OpNeg, 0))
	expectBinds(t, neg, ringTerm(t, "~~~~~~a"), 0, bindOf(0))
	expectBinds(t, neg, ringTerm(t, "~~~~~~1"), 0)
	expectIs(t, neg, ringTerm(t, "~~~~~~a"), 0, bindOf(0), true)
	sum := manyAlike(impl.MaxENodes, eOp(impl.OpAdd, 0, 0))
	expectBinds(t, sum, ringTerm(t, "((a+b)+(c+d))"), 0, bindOf(0, 0, 0, 0))
	expectAll(t, sum, ringTerm(t, "(((a+b)+c)+2)"))
	choice := manyAlike(impl.MaxENodes, eOp(impl.OpIf, 0, 0, 0))
	expectBinds(t, choice, ringTerm(t, "((a?b:c)?d:a)"), 0, bindOf(0, 0, 0, 0))
	// Alike ones do not count for MaxBinds.
	g := square(8, impl.MaxBinds)
	for range 10 {
		g.Nodes, g.Parts = append(g.Nodes, eOp(impl.OpAdd, 0, 0)), append(g.Parts, 8)
	}
	g.Nodes, g.Parts = append(g.Nodes, eOp(impl.OpAdd, 7, 7)), append(g.Parts, 8)
	expectBinds(t, g, ringTerm(t, "(a+b)"), 8, squareBinds(8, impl.MaxBinds)...)
	few := square(8, 20)
	few.Nodes = slices.Concat(few.Nodes, slices.Repeat([]impl.ENode{eOp(impl.OpAdd, 0, 0)}, 70), []impl.ENode{eOp(impl.OpAdd, 7, 7)})
	few.Parts = slices.Concat(few.Parts, slices.Repeat([]int{8}, 71))
	expectBinds(t, few, ringTerm(t, "(a+b)"), 8, append(squareBinds(8, 20), bindOf(7, 7))...)
}

func TestTheFirstMaxBindsOfOneClass(t *testing.T) {
	for _, count := range []int{impl.MaxBinds - 1, impl.MaxBinds, impl.MaxBinds + 1, 100} {
		g := square(10, count)
		expectBinds(t, g, ringTerm(t, "(a+b)"), 10, squareBinds(10, min(count, impl.MaxBinds))...)
		expectBinds(t, g, ringTerm(t, "(9+a)"), 10, wantBinds(g, ringTerm(t, "(9+a)"), 10)...)
	}
	// Those of a part are not cut: with the last bind alone the other part agrees.
	g := square(10, 100)
	g.Nodes = append(g.Nodes, eOp(impl.OpSub, 10, 9), eOp(impl.OpSub, 9, 10))
	g.Parts = append(g.Parts, 110, 111)
	expectBinds(t, g, ringTerm(t, "((a+a)-a)"), 110, bindOf(9))
	expectBinds(t, g, ringTerm(t, "(a-(a+a))"), 111, bindOf(9))
	expectBinds(t, g, ringTerm(t, "((a+b)-b)"), 110, wantBinds(g, ringTerm(t, "((a+b)-b)"), 110)...)
	expectBinds(t, g, ringTerm(t, "((8+a)-b)"), 110, wantBinds(g, ringTerm(t, "((8+a)-b)"), 110)...)
}

// AllMatches has MaxBinds of each class, not of all.
func TestMoreThanMaxBindsOfAllClasses(t *testing.T) {
	var alone []impl.Found
	for k := range impl.MaxENodes {
		alone = append(alone, impl.Found{Class: k, Bind: bindOf(k)})
	}
	expectAll(t, manyNumbers(impl.MaxENodes), variable(0), alone...)
	g := square(9, 81)
	for k := range 3 {
		g.Nodes, g.Parts = append(g.Nodes, eOp(impl.OpSub, 9, k)), append(g.Parts, 90+k)
	}
	var all []impl.Found
	for k := range 3 {
		for _, bind := range squareBinds(9, impl.MaxBinds) {
			bind[2] = k
			all = append(all, impl.Found{Class: 90 + k, Bind: bind})
		}
	}
	expectAll(t, g, ringTerm(t, "((a+b)-c)"), all...)
	deep := square(10, 100)
	deep.Nodes, deep.Parts = append(deep.Nodes, eOp(impl.OpMul, 10, 10)), append(deep.Parts, 110)
	var first []impl.Found
	for _, bind := range squareBinds(10, impl.MaxBinds) {
		first = append(first, impl.Found{Class: 110, Bind: []int{0, 0, bind[0], bind[1]}})
	}
	expectAll(t, deep, ringTerm(t, "((a+b)*(c+d))"), first...)
}

// Many ways that lead nowhere: no sum of the one class is one of the other.
func TestManyWaysThatLeadNowhere(t *testing.T) {
	g := manyNumbers(12)
	for k := range 49 {
		g.Nodes, g.Parts = append(g.Nodes, eOp(impl.OpAdd, k/7, k%7)), append(g.Parts, 12)
	}
	for k := range 25 {
		g.Nodes, g.Parts = append(g.Nodes, eOp(impl.OpAdd, 7+k/5, 7+k%5)), append(g.Parts, 61)
	}
	g.Nodes, g.Parts = append(g.Nodes, eOp(impl.OpAdd, 12, 61)), append(g.Parts, 86)
	expectAll(t, g, ringTerm(t, "((a+b)+(b+c))"))
	expectAll(t, g, ringTerm(t, "((a+b)+(c+a))"))
	expectBinds(t, g, ringTerm(t, "((a+b)+(c+d))"), 86, wantBinds(g, ringTerm(t, "((a+b)+(c+d))"), 86)...)
}

func TestIsMatch(t *testing.T) {
	g, sum := sums(false), ringTerm(t, "(a+b)")
	for a := range 5 {
		for b := range 5 {
			expectIs(t, g, sum, 2, bindOf(a, b), a == 0 && b == 1)
			expectIs(t, g, sum, 3, bindOf(a, b), a == 0 && b == 0)
			expectIs(t, g, sum, 4, bindOf(a, b), false)
		}
	}
	// What the bind has for other variables is nothing to the pattern.
	expectIs(t, g, sum, 2, bindOf(0, 1, 4, 3), true)
	expectIs(t, g, num(7), 4, bindOf(0, 1, 2, 3), true)
	expectIs(t, g, num(7), 4, bindOf(), true)
	expectIs(t, g, num(7), 3, bindOf(), false)
	expectIs(t, g, num(8), 4, bindOf(), false)
	expectIs(t, g, variable(2), 3, bindOf(-1, -1, 3), true)
	expectIs(t, g, variable(2), 3, bindOf(-1, -1, 2), false)
	expectIs(t, g, variable(2), 3, bindOf(3, 3, -1, 3), false)
	expectIs(t, g, ringTerm(t, "(a+a)"), 3, bindOf(0), true)
	expectIs(t, g, ringTerm(t, "(a+a)"), 2, bindOf(0), false)
	expectIs(t, g, ringTerm(t, "~a"), 2, bindOf(0), false)
	expectIs(t, inItself(), ringTerm(t, "~~~~~~a"), 0, bindOf(0), true)
	expectIs(t, inItself(), ringTerm(t, "(0+(~a+b))"), 0, bindOf(0, 3), true)
	expectIs(t, inItself(), ringTerm(t, "(0+(~a+b))"), 0, bindOf(3, 0), false)
}

func TestIsMatchWhereAVariableHasNoClass(t *testing.T) {
	g, sum := sums(false), ringTerm(t, "(a+b)")
	for _, bind := range [][]int{bindOf(), bindOf(0), bindOf(-1, 1), bindOf(-1, -1, 0, 1)} {
		expectIs(t, g, sum, 2, bind, false)
	}
	for class := range 5 {
		expectIs(t, g, variable(0), class, bindOf(), false)
		expectIs(t, g, variable(3), class, bindOf(class, class, class), false)
	}
}

// badBinds are wrong at a graph of six numbers whose classes are 0, 2 and 4.
func badBinds() map[string][]int {
	bad := map[string][]int{
		"none":                    nil,
		"an empty one":            {},
		"one class":               {0},
		"one too short":           {0, 2, 4},
		"one too long":            {0, 2, 4, -1, -1},
		"one too long, a class":   {0, 2, 4, 0, 0},
		"many too long":           make([]int, 1000),
		"longer, wrong":           {0, 2, 4, -1, 77},
		"shorter than its memory": []int{0, 2, 4, 0}[:3],
	}
	for v := range impl.MaxVars {
		for _, k := range []int{-2, -3, 1, 3, 5, 6, 7, impl.MaxENodes, math.MinInt, math.MaxInt} {
			bind := []int{0, 2, 4, 0}
			bind[v] = k
			bad["variable "+impl.NumText(int64(v))+" with "+impl.NumText(int64(k))] = bind
		}
	}
	return bad
}

// threeClasses has six nodes: 1, 3 and 5 are nodes but no classes.
func threeClasses() impl.EGraph {
	return impl.EGraph{
		Nodes: []impl.ENode{eVar(0), eNum(1), eVar(1), eNum(2), eOp(impl.OpAdd, 0, 2), eOp(impl.OpAdd, 2, 0)},
		Parts: []int{0, 0, 2, 2, 4, 4},
	}
}

func TestBindsThatAreNone(t *testing.T) {
	g := threeClasses()
	patterns := []string{"a", "2", "(a+b)", "(c+d)", "((a+b)+(c+d))", "~5"}
	for name, bind := range badBinds() {
		for _, s := range patterns {
			term := ringTerm(t, s)
			for _, class := range []int{0, 2, 4} {
				expectNotToBeAsked(t, name, g, term, class, bind)
			}
			expectNoInst(t, name, g, term, bind)
		}
	}
	for _, s := range patterns {
		if _, ok := impl.IsMatch(g, ringTerm(t, s), 4, []int{0, 2, 4, 0}); !ok {
			t.Errorf("%s: want to be asked", s)
		}
		if _, _, ok := impl.InstOf(g, ringTerm(t, s), []int{0, 2, 4, 0}); !ok {
			t.Errorf("%s: want to be made", s)
		}
	}
}

func TestNumbersThatAreNoClasses(t *testing.T) {
	g := threeClasses()
	for _, class := range []int{1, 3, 5, -1, -2, 6, 7, impl.MaxENodes, math.MinInt, math.MaxInt} {
		for _, s := range []string{"a", "1", "2", "(a+b)", "~a"} {
			expectNoBinds(t, "no class", g, ringTerm(t, s), class)
			expectNotToBeAsked(t, "no class", g, ringTerm(t, s), class, bindOf(0, 2))
			expectNotToBeAsked(t, "no class", g, ringTerm(t, s), class, bindOf())
		}
	}
	expectBinds(t, g, ringTerm(t, "(a+b)"), 4, bindOf(0, 2), bindOf(2, 0))
}

func TestMatchingInTheEmptyGraph(t *testing.T) {
	for _, g := range []impl.EGraph{{}, {Nodes: make([]impl.ENode, 0, 3), Parts: make([]int, 0, 3)}} {
		for _, s := range []string{"a", "1", "(a+b)", "~~~~~~a", "(1+2)"} {
			term := ringTerm(t, s)
			expectAll(t, g, term)
			for _, class := range []int{-1, 0, 1} {
				expectNoBinds(t, "the empty graph", g, term, class)
				expectNotToBeAsked(t, "the empty graph", g, term, class, bindOf())
				expectNotToBeAsked(t, "the empty graph", g, term, class, bindOf(0))
			}
			expectNoInst(t, "the empty graph", g, term, bindOf(0, 0, 0, 0))
		}
		expectInst(t, g, num(1), bindOf(), graphOf(eNum(1)), 0)
		expectInst(t, g, ringTerm(t, "(1+2)"), bindOf(), graphOf(eNum(1), eNum(2), eOp(impl.OpAdd, 0, 1)), 2)
		expectNoInst(t, "a variable", g, variable(0), bindOf())
	}
}

func TestInstOf(t *testing.T) {
	g := sums(false)
	expectInst(t, g, ringTerm(t, "(b+a)"), bindOf(0, 1), graphOf(append(slices.Clone(g.Nodes), eOp(impl.OpAdd, 1, 0))...), 5)
	expectInst(t, g, ringTerm(t, "(a+b)"), bindOf(1, 0), graphOf(append(slices.Clone(g.Nodes), eOp(impl.OpAdd, 1, 0))...), 5)
	expectInst(t, g, ringTerm(t, "(~a*(b-a))"), bindOf(2, 4),
		graphOf(append(slices.Clone(g.Nodes), eOp(impl.OpNeg, 2), eOp(impl.OpSub, 4, 2), eOp(impl.OpMul, 5, 6))...), 7)
	expectInst(t, g, ringTerm(t, "(~a+~a)"), bindOf(3), graphOf(append(slices.Clone(g.Nodes), eOp(impl.OpNeg, 3), eOp(impl.OpAdd, 5, 5))...), 6)
	expectInst(t, g, ringTerm(t, "(a?8:7)"), bindOf(0), graphOf(append(slices.Clone(g.Nodes), eNum(8), eOp(impl.OpIf, 0, 5, 4))...), 6)
	// A number alone is put; the variables' nodes are not, whatever is there.
	expectInst(t, g, num(9), bindOf(0, 1, 2, 3), graphOf(append(slices.Clone(g.Nodes), eNum(9))...), 5)
	expectInst(t, graphOf(eNum(4)), ringTerm(t, "~d"), bindOf(-1, -1, -1, 0), graphOf(eNum(4), eOp(impl.OpNeg, 0)), 1)
}

func TestInstOfWhatIsThere(t *testing.T) {
	for _, g := range []impl.EGraph{sums(false), sums(true), inItself(), manyNumbers(impl.MaxENodes)} {
		classes, _ := impl.ClassesIn(g)
		for _, class := range classes {
			expectInst(t, g, variable(1), bindOf(-1, class), g, class)
			expectInst(t, g, variable(1), bindOf(0, class, 0, 0), g, class)
		}
	}
	g := sums(true)
	expectInst(t, g, ringTerm(t, "(a+b)"), bindOf(0, 0), g, 2)
	expectInst(t, g, ringTerm(t, "(d+d)"), bindOf(-1, 2, 4, 0), g, 2)
	expectInst(t, g, num(7), bindOf(), g, 4)
	expectInst(t, g, num(7), bindOf(0, 0, 0, 0), g, 4)
	expectInst(t, inItself(), ringTerm(t, "~(~a+(b+0))"), bindOf(0, 0), inItself(), 0)
	chain := oneChain(impl.MaxENodes)
	expectInst(t, chain, ringTerm(t, "~~~~~~a"), bindOf(impl.MaxENodes-7), chain, impl.MaxENodes-1)
}

func TestInstOfWhereAVariableHasNoClass(t *testing.T) {
	g := sums(false)
	for s, binds := range map[string][][]int{
		"a":             {bindOf(), bindOf(-1, 0, 0, 0)},
		"d":             {bindOf(), bindOf(0, 0, 0)},
		"(a+b)":         {bindOf(), bindOf(0), bindOf(-1, 1), bindOf(-1, -1, 0, 1)},
		"(a+a)":         {bindOf(), bindOf(-1, 0, 0, 0)},
		"(7+c)":         {bindOf(), bindOf(0, 1)},
		"((a+b)+(c+d))": {bindOf(0, 1, 2), bindOf(0, 1, -1, 2), bindOf(-1, 1, 2, 3), bindOf(0, -1, 2, 3)},
	} {
		for _, bind := range binds {
			expectNoInst(t, s, g, ringTerm(t, s), bind)
			expectIs(t, g, ringTerm(t, s), 2, bind, false)
		}
	}
}

func TestInstOfAtTheLimit(t *testing.T) {
	term := ringTerm(t, "(~a*(b-3))")
	for room := range 6 {
		g := manyNumbers(impl.MaxENodes - room)
		if room < 3 {
			expectNoInst(t, "too little room", g, term, bindOf(5, 6))
			continue
		}
		at := len(g.Nodes)
		want := graphOf(append(slices.Clone(g.Nodes), eOp(impl.OpNeg, 5), eOp(impl.OpSub, 6, 3), eOp(impl.OpMul, at, at+1))...)
		expectInst(t, g, term, bindOf(5, 6), want, at+2)
		expectInst(t, want, term, bindOf(5, 6), want, at+2)
	}
	full := manyNumbers(impl.MaxENodes)
	expectNoInst(t, "a number more", full, num(impl.MaxENodes), bindOf())
	expectInst(t, full, num(impl.MaxENodes-1), bindOf(), full, impl.MaxENodes-1)
}

func TestPatternsThatAreNone(t *testing.T) {
	bad := badTerms()
	bad["a node more"] = negated(variable(0), impl.MaxPattern)
	bad["a node more, of sums"] = ringTerm(t, "~((a+a)+(a+a))")
	bad["a number, a node more"] = negated(num(7), impl.MaxPattern)
	for name, term := range bad {
		for _, g := range []impl.EGraph{{}, sums(true), inItself(), oneChain(20)} {
			expectNoBinds(t, name, g, term, 0)
			expectNoneOfAll(t, name, g, term)
			expectNotToBeAsked(t, name, g, term, 0, bindOf(0, 0, 0, 0))
			expectNotToBeAsked(t, name, g, term, 0, bindOf())
			expectNoInst(t, name, g, term, bindOf(0, 0, 0, 0))
		}
	}
	expectBinds(t, oneChain(20), negated(variable(0), impl.MaxPattern-1), 9, bindOf(3))
}

func TestBadGraphsHaveNoMatches(t *testing.T) {
	for name, g := range badGraphs() {
		for _, term := range [][]impl.Node{variable(0), num(7), ringTerm(t, "~a")} {
			expectNoBinds(t, name, g, term, 0)
			expectNoneOfAll(t, name, g, term)
			expectNotToBeAsked(t, name, g, term, 0, bindOf(0))
			expectNotToBeAsked(t, name, g, term, 0, bindOf())
			expectNoInst(t, name, g, term, bindOf(0))
			expectNoInst(t, name, g, num(7), bindOf())
		}
	}
}

// Promise 7: where a pattern is found, what it makes with that bind is in the class already.
func TestWhatIsFoundIsThereAlready(t *testing.T) {
	r := rand.New(rand.NewSource(81))
	found := 0
	for range 1500 {
		count := 1 + r.Intn(40)
		g := crowdedGraph(r, count)
		if r.Intn(2) == 0 {
			g = randomGraph(r, count)
		}
		term := randomPattern(r, g, g.Parts[r.Intn(count)], impl.MaxPattern)
		all, ok := impl.AllMatches(g, term)
		if !ok {
			t.Fatalf("%s: want to be looked for", written(term))
		}
		for _, f := range all {
			expectInst(t, g, term, f.Bind, g, f.Class)
			expectIs(t, g, term, f.Class, f.Bind, true)
		}
		found += min(len(all), 1)
	}
	if found < 1000 {
		t.Errorf("%d of 1500 patterns were found: too few", found)
	}
}

func TestMatchesAsTheListsTell(t *testing.T) {
	r := rand.New(rand.NewSource(82))
	several := 0
	for range 3000 {
		count := 1 + r.Intn(25)
		g := crowdedGraph(r, count)
		term := randomPattern(r, g, g.Parts[r.Intn(count)], 1+r.Intn(impl.MaxPattern))
		classes, _ := impl.ClassesIn(g)
		var all []impl.Found
		for _, class := range classes {
			want := wantBinds(g, term, class)
			expectBinds(t, g, term, class, want...)
			for _, bind := range want {
				all = append(all, impl.Found{Class: class, Bind: bind})
			}
			if len(want) > 1 {
				several++
			}
		}
		expectAll(t, g, term, all...)
	}
	if several < 300 {
		t.Errorf("%d classes had several binds: too few", several)
	}
}

// So many nodes that there are more binds than MaxBinds.
func TestManyMatchesAsTheListsTell(t *testing.T) {
	r := rand.New(rand.NewSource(83))
	cut := 0
	for range 20 {
		g := crowdedGraph(r, 70+r.Intn(50))
		classes, _ := impl.ClassesIn(g)
		for _, s := range []string{"(a+b)", "((a+b)+c)", "(a+(b*c))", "((a+b)*(c+d))", "((a+b)+(b+c))", "((a*b)+(c*b))", "(a?b:(c+d))", "(a?b:(c?d:a))"} {
			for _, class := range classes {
				want := wantBinds(g, ringTerm(t, s), class)
				expectBinds(t, g, ringTerm(t, s), class, want...)
				if len(want) == impl.MaxBinds {
					cut++
				}
			}
		}
	}
	if cut < 10 {
		t.Errorf("%d were cut: too few", cut)
	}
}

func TestIsMatchByTheWords(t *testing.T) {
	r := rand.New(rand.NewSource(84))
	is, others := 0, 0
	for range 1500 {
		count := 1 + r.Intn(12)
		g := randomGraph(r, count)
		class := g.Parts[r.Intn(count)]
		term := randomPattern(r, g, class, 1+r.Intn(5))
		binds, _ := impl.MatchAt(g, term, class)
		for range 8 {
			bind := bindOf()
			for v := range bind {
				if k := r.Intn(count+1) - 1; k >= 0 {
					bind[v] = g.Parts[k]
				}
			}
			want := matchesByTheWords(g, term, len(term)-1, class, bind)
			expectIs(t, g, term, class, bind, want)
			if want {
				is++
				expectAmong(t, term, bind, binds)
			} else {
				others++
			}
		}
	}
	if is < 1000 || others < 1000 {
		t.Errorf("%d matched, %d did not: too much of one kind", is, others)
	}
}

// expectAmong looks for a bind that matches among those that are found, with
// -1 for the variables that are not in the pattern.
func expectAmong(t *testing.T, term []impl.Node, bind []int, binds [][]int) {
	t.Helper()
	least := bindOf()
	for _, n := range term {
		if n.Op == impl.OpVar {
			least[n.N] = bind[n.N]
		}
	}
	if !slices.ContainsFunc(binds, func(b []int) bool { return slices.Equal(b, least) }) {
		t.Fatalf("%s: %v matches but is not among %v", written(term), least, binds)
	}
}

// instByTable puts each node that is no variable, one by one, as the words say.
func instByTable(g impl.EGraph, t []impl.Node, root int, bind []int) (impl.EGraph, int) {
	if t[root].Op == impl.OpVar {
		return g, bind[t[root].N]
	}
	n := impl.ENode{Op: t[root].Op, N: t[root].N}
	for _, at := range partsOf(t, root) {
		var class int
		g, class = instByTable(g, t, at, bind)
		n.Kids = append(n.Kids, class)
	}
	return putByTable(g, n)
}

func TestInstOfAsTheTableTells(t *testing.T) {
	r := rand.New(rand.NewSource(85))
	for range 1500 {
		count := 1 + r.Intn(20)
		g := randomGraph(r, count)
		term := randomTerm(r, 1+r.Intn(impl.MaxPattern))
		if r.Intn(2) == 0 {
			term = randomPattern(r, g, g.Parts[r.Intn(count)], impl.MaxPattern)
		}
		bind := bindOf()
		for v := range bind {
			bind[v] = g.Parts[r.Intn(count)]
		}
		want, class := instByTable(g, term, len(term)-1, bind)
		expectInst(t, g, term, bind, want, class)
		expectIs(t, want, term, class, bind, true)
	}
}

// A pattern whose variables are their own classes is what AddTerm makes.
func TestInstOfVariablesByThemselves(t *testing.T) {
	r := rand.New(rand.NewSource(86))
	g := graphOf(eVar(0), eVar(1), eVar(2), eVar(3))
	for range 300 {
		term := randomTerm(r, 1+r.Intn(impl.MaxPattern))
		want, class, _ := impl.AddTerm(g, term)
		expectInst(t, g, term, bindOf(0, 1, 2, 3), want, class)
	}
}

func TestMatchingChangesNothing(t *testing.T) {
	before := map[string]impl.EGraph{"random": randomGraph(rand.New(rand.NewSource(87)), 12), "square": square(9, 70), "in itself": inItself()}
	for name, g := range goodGraphs() {
		before[name] = g
	}
	for name, g := range badGraphs() {
		before["bad: "+name] = g
	}
	for name, was := range before {
		for _, s := range []string{"a", "7", "(a+b)", "~~~~~~a", "(a+5)", "~~~~~~~a"} {
			for _, bindWas := range [][]int{bindOf(0, 0, 0, 0), bindOf(), {0}, {0, -2, 0, 0}} {
				g, asked, bind := graphWithTail(was), withTail(ringTerm(t, s)), withNumbersBehind(bindWas)
				impl.GoodPattern(asked)
				impl.IsMatch(g, asked, 0, bind)
				binds, _ := impl.MatchAt(g, asked, 0)
				for _, b := range binds {
					spoilNumbers(b)
				}
				all, _ := impl.AllMatches(g, asked)
				for _, f := range all {
					spoilNumbers(f.Bind)
				}
				made, _, _ := impl.InstOf(g, asked, bind)
				spoilGraph(made)
				expectTail(t, name, g, was)
				if !slices.Equal(asked[:cap(asked)], withTail(ringTerm(t, s))[:cap(asked)]) {
					t.Fatalf("%s: the pattern is %v", name, asked[:cap(asked)])
				}
				if !slices.Equal(bind, bindWas) {
					t.Fatalf("%s: the bind is %v, was %v", name, bind, bindWas)
				}
				expectNumbersBehind(t, name, bind)
			}
		}
	}
}

// expectListsApart writes over one list at a time, behind its length too, and
// looks at all others.
func expectListsApart(t *testing.T, what string, lists [][]int) {
	t.Helper()
	var before [][]int
	for _, l := range lists {
		before = append(before, slices.Clone(l))
	}
	for k, l := range lists {
		spoilNumbers(l)
		for other := range lists {
			if other != k && !slices.Equal(lists[other], before[other]) {
				t.Fatalf("%s: lists %d and %d share memory", what, k, other)
			}
		}
		copy(l, before[k])
	}
}

func TestNoTwoBindsShareMemory(t *testing.T) {
	g := square(9, 81)
	binds, _ := impl.MatchAt(g, ringTerm(t, "(a+b)"), 9)
	expectListsApart(t, "MatchAt", binds)
	for _, s := range []string{"a", "3", "(a+b)", "(a+a)"} {
		all, _ := impl.AllMatches(g, ringTerm(t, s))
		var lists [][]int
		for _, f := range all {
			lists = append(lists, f.Bind)
		}
		expectListsApart(t, "AllMatches", lists)
	}
	kids := []int{0, 0}
	shared := impl.EGraph{Nodes: []impl.ENode{eVar(0), {Op: impl.OpAdd, Kids: kids}, {Op: impl.OpSub, Kids: kids}}, Parts: aloneEach(3)}
	for _, s := range []string{"a", "7", "(a+b)", "((a+a)*(a-a))"} {
		made, _, _ := impl.InstOf(shared, ringTerm(t, s), bindOf(0, 0))
		expectOwnMemory(t, "InstOf", made)
	}
	if !slices.Equal(kids, []int{0, 0}) {
		t.Errorf("the kids are %v", kids)
	}
}

func TestTheSamePatternHasTheSameMatches(t *testing.T) {
	r := rand.New(rand.NewSource(88))
	for range 30 {
		g := randomGraph(r, 40)
		term := randomPattern(r, g, g.Parts[r.Intn(40)], impl.MaxPattern)
		all, _ := impl.AllMatches(g, term)
		for range 3 {
			expectAll(t, g, term, all...)
		}
	}
}
