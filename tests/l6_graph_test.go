package tests

import (
	"math"
	"math/rand"
	"slices"
	"testing"

	"loop.example/g00694/impl"
)

func eNum(n int64) impl.ENode { return impl.ENode{Op: impl.OpNum, N: n} }

func eVar(v int64) impl.ENode { return impl.ENode{Op: impl.OpVar, N: v} }

func eOp(op int, kids ...int) impl.ENode { return impl.ENode{Op: op, Kids: kids} }

// graphOf is a graph in which each node is a class of its own.
func graphOf(nodes ...impl.ENode) impl.EGraph {
	return impl.EGraph{Nodes: nodes, Parts: aloneEach(len(nodes))}
}

// twoChains has a, b, ~a, ~b, ~~a, ~~b and so on.
func twoChains(length int) impl.EGraph {
	nodes := []impl.ENode{eVar(0), eVar(1)}
	for k := range length - 2 {
		nodes = append(nodes, eOp(impl.OpNeg, k))
	}
	return graphOf(nodes...)
}

func oneChain(length int) impl.EGraph {
	nodes := []impl.ENode{eVar(0)}
	for k := range length - 1 {
		nodes = append(nodes, eOp(impl.OpNeg, k))
	}
	return graphOf(nodes...)
}

func manyNumbers(count int) impl.EGraph {
	var nodes []impl.ENode
	for k := range count {
		nodes = append(nodes, eNum(int64(k)))
	}
	return graphOf(nodes...)
}

func alikeByTable(o oneness, a, b impl.ENode) bool {
	if a.Op != b.Op || a.N != b.N || len(a.Kids) != len(b.Kids) {
		return false
	}
	for k := range a.Kids {
		if !o[a.Kids[k]][b.Kids[k]] {
			return false
		}
	}
	return true
}

// closedByTable ties what is alike, two by two, until there is nothing to tie.
func closedByTable(nodes []impl.ENode, parts []int) []int {
	o := onenessOf(parts)
	for again := true; again; {
		again = false
		for a := range nodes {
			for b := range a {
				if !o[a][b] && alikeByTable(o, nodes[a], nodes[b]) {
					o.tie(a, b)
					again = true
				}
			}
		}
		o.close()
	}
	return o.told()
}

// graphByTable is the least graph that has these nodes in these parts.
func graphByTable(nodes []impl.ENode, parts []int) impl.EGraph {
	g := impl.EGraph{Parts: closedByTable(nodes, parts)}
	for _, n := range nodes {
		g.Nodes = append(g.Nodes, kidsByParts(n, g.Parts))
	}
	return g
}

func kidsByParts(n impl.ENode, parts []int) impl.ENode {
	var kids []int
	for _, kid := range n.Kids {
		kids = append(kids, parts[kid])
	}
	return impl.ENode{Op: n.Op, N: n.N, Kids: kids}
}

func goodGraphByTheWords(g impl.EGraph) bool {
	_, parts := goodByTheWords(g.Parts)
	if len(g.Nodes) > impl.MaxENodes || len(g.Parts) != len(g.Nodes) || !parts {
		return false
	}
	for k, n := range g.Nodes {
		if !nodeByTheWords(n, k) {
			return false
		}
		for _, kid := range n.Kids {
			if g.Parts[kid] != kid {
				return false
			}
		}
		for other := range k {
			if sameENode(g.Nodes[other], n) && g.Parts[other] != g.Parts[k] {
				return false
			}
		}
	}
	return true
}

func nodeByTheWords(n impl.ENode, number int) bool {
	term := []impl.Node{}
	for range n.Kids {
		term = append(term, impl.Node{Op: impl.OpVar})
	}
	for _, kid := range n.Kids {
		if kid < 0 || kid >= number {
			return false
		}
	}
	return impl.GoodTerm(append(term, impl.Node{Op: n.Op, N: n.N}))
}

func sameENode(a, b impl.ENode) bool {
	return a.Op == b.Op && a.N == b.N && slices.Equal(a.Kids, b.Kids)
}

func sameGraph(a, b impl.EGraph) bool {
	return slices.EqualFunc(a.Nodes, b.Nodes, sameENode) && slices.Equal(a.Parts, b.Parts)
}

// putByTable is AddNode by the words: it looks at all nodes, one by one.
func putByTable(g impl.EGraph, n impl.ENode) (impl.EGraph, int) {
	n = kidsByParts(n, g.Parts)
	for k, other := range g.Nodes {
		if sameENode(other, n) {
			return g, g.Parts[k]
		}
	}
	number := len(g.Nodes)
	nodes := append(slices.Clone(g.Nodes), n)
	return impl.EGraph{Nodes: nodes, Parts: append(slices.Clone(g.Parts), number)}, number
}

// putTermByTable goes through the term from its root, the parts from the left.
func putTermByTable(g impl.EGraph, t []impl.Node, root int) (impl.EGraph, int) {
	arity, _ := impl.ArityOf(t[root].Op)
	roots := make([]int, arity)
	for k, at := arity-1, root-1; k >= 0; k-- {
		roots[k] = at
		part, _ := impl.PartAt(t, at)
		at -= len(part)
	}
	n := impl.ENode{Op: t[root].Op, N: t[root].N}
	for _, at := range roots {
		var class int
		g, class = putTermByTable(g, t, at)
		n.Kids = append(n.Kids, class)
	}
	return putByTable(g, n)
}

func randomENode(r *rand.Rand, number int) impl.ENode {
	if number == 0 || r.Intn(4) == 0 {
		if r.Intn(2) == 0 {
			return eVar(int64(r.Intn(impl.MaxVars)))
		}
		return eNum(int64(r.Intn(3)) - 1)
	}
	// Few ops, so that many nodes are alike but for their kids.
	c := opsWithParts[[]int{0, 1, 1, 3, 8}[r.Intn(5)]]
	n := impl.ENode{Op: c.op}
	for range c.arity {
		n.Kids = append(n.Kids, r.Intn(number))
	}
	return n
}

func randomENodes(r *rand.Rand, count int) []impl.ENode {
	var nodes []impl.ENode
	for k := range count {
		nodes = append(nodes, randomENode(r, k))
	}
	return nodes
}

// fewParts joins few numbers, so that closing has to find the rest.
func fewParts(r *rand.Rand, count int) []int {
	o := onenessOf(aloneEach(count))
	for range r.Intn(3) {
		o.tie(r.Intn(count), r.Intn(count))
	}
	return o.close().told()
}

func randomGraph(r *rand.Rand, count int) impl.EGraph {
	if count == 0 {
		return impl.EGraph{}
	}
	return graphByTable(randomENodes(r, count), fewParts(r, count))
}

func expectGraph(t *testing.T, what string, got impl.EGraph, ok bool, want impl.EGraph) {
	t.Helper()
	if !ok || !sameGraph(got, want) {
		t.Errorf("%s: got %v, %v, want %v, true", what, got, ok, want)
	}
	if !impl.GoodGraph(got) {
		t.Errorf("%s: %v is not good", what, got)
	}
}

func expectNoGraph(t *testing.T, what string, got impl.EGraph, ok bool) {
	t.Helper()
	if ok || len(got.Nodes) != 0 || len(got.Parts) != 0 {
		t.Errorf("%s: got %v, %v, want none, false", what, got, ok)
	}
}

func expectAdded(t *testing.T, g impl.EGraph, n impl.ENode, want impl.EGraph, class int) {
	t.Helper()
	got, k, ok := impl.AddNode(g, n)
	expectGraph(t, "AddNode", got, ok, want)
	if k != class {
		t.Errorf("AddNode of %v: class %d, want %d", n, k, class)
	}
}

func expectNotAdded(t *testing.T, what string, g impl.EGraph, n impl.ENode) {
	t.Helper()
	got, k, ok := impl.AddNode(g, n)
	expectNoGraph(t, "AddNode, "+what, got, ok)
	if k != 0 {
		t.Errorf("AddNode, %s: class %d, want 0", what, k)
	}
}

func expectTermAdded(t *testing.T, g impl.EGraph, term []impl.Node, want impl.EGraph, class int) {
	t.Helper()
	got, k, ok := impl.AddTerm(g, term)
	expectGraph(t, "AddTerm", got, ok, want)
	if k != class {
		t.Errorf("AddTerm of %v: class %d, want %d", term, k, class)
	}
}

func expectTermNotAdded(t *testing.T, what string, g impl.EGraph, term []impl.Node) {
	t.Helper()
	got, k, ok := impl.AddTerm(g, term)
	expectNoGraph(t, "AddTerm, "+what, got, ok)
	if k != 0 {
		t.Errorf("AddTerm, %s: class %d, want 0", what, k)
	}
}

func expectFound(t *testing.T, g impl.EGraph, term []impl.Node, want int) {
	t.Helper()
	if k, ok := impl.FindTerm(g, term); k != want || !ok {
		t.Errorf("FindTerm of %s: got %d, %v, want %d, true", written(term), k, ok, want)
	}
}

func expectNotFound(t *testing.T, what string, g impl.EGraph, term []impl.Node) {
	t.Helper()
	if k, ok := impl.FindTerm(g, term); k != 0 || ok {
		t.Errorf("FindTerm, %s: got %d, %v, want 0, false", what, k, ok)
	}
}

func expectMerged(t *testing.T, g impl.EGraph, a, b int, want impl.EGraph) {
	t.Helper()
	for range 2 {
		got, ok := impl.Merge(g, a, b)
		expectGraph(t, "Merge", got, ok, want)
		a, b = b, a
	}
}

func expectClosed(t *testing.T, nodes []impl.ENode, parts []int, want ...int) {
	t.Helper()
	got, ok := impl.Closed(nodes, parts)
	expectList(t, "Closed", got, ok, want...)
	again, ok := impl.Closed(nodes, got)
	expectList(t, "Closed again", again, ok, want...)
}

func expectNodesIn(t *testing.T, g impl.EGraph, k int, want ...int) {
	t.Helper()
	got, ok := impl.NodesIn(g, k)
	expectList(t, "NodesIn", got, ok, want...)
}

func expectClassesIn(t *testing.T, g impl.EGraph, want ...int) {
	t.Helper()
	got, ok := impl.ClassesIn(g)
	expectList(t, "ClassesIn", got, ok, want...)
}

// sums has a, b, (a+b), (a+a), 7, with a and b one or not.
func sums(one bool) impl.EGraph {
	g := graphOf(eVar(0), eVar(1), eOp(impl.OpAdd, 0, 1), eOp(impl.OpAdd, 0, 0), eNum(7))
	if one {
		g.Nodes[2].Kids[1] = 0
		g.Parts = []int{0, 0, 2, 2, 4}
	}
	return g
}

// badNodes are wrong as nodes of number 3, whatever the parts of 0 to 2.
func badNodes() map[string]impl.ENode {
	bad := map[string]impl.ENode{
		"the zero node":           {},
		"an op below 0":           {Op: -1},
		"an op behind all":        {Op: impl.OpIf + 1, Kids: []int{0, 0, 0}},
		"the least op":            {Op: math.MinInt},
		"the greatest op":         {Op: math.MaxInt},
		"a variable below 0":      eVar(-1),
		"a variable of MaxVars":   eVar(impl.MaxVars),
		"a variable far out":      eVar(1 << 32),
		"a number with a kid":     {Op: impl.OpNum, Kids: []int{0}},
		"a variable with a kid":   {Op: impl.OpVar, Kids: []int{0}},
		"a kid that is its node":  eOp(impl.OpNeg, 3),
		"a kid behind its node":   eOp(impl.OpNeg, 4),
		"a second kid too great":  eOp(impl.OpAdd, 0, 3),
		"a third kid too great":   eOp(impl.OpIf, 0, 0, 3),
		"a kid below 0":           eOp(impl.OpNeg, -1),
		"a second kid below 0":    eOp(impl.OpSub, 0, -1),
		"a third kid below 0":     eOp(impl.OpIf, 0, 0, -2),
		"the least kid":           eOp(impl.OpNeg, math.MinInt),
		"the greatest kid":        eOp(impl.OpNeg, math.MaxInt),
		"four kids of a choice":   eOp(impl.OpIf, 0, 0, 0, 0),
		"many kids of a negative": {Op: impl.OpNeg, Kids: make([]int, 1000)},
	}
	for _, c := range opsWithParts {
		name := impl.NumText(int64(c.op))
		bad["op "+name+" with no kids"] = impl.ENode{Op: c.op}
		bad["op "+name+" with one too few"] = impl.ENode{Op: c.op, Kids: make([]int, c.arity-1)}
		bad["op "+name+" with one too many"] = impl.ENode{Op: c.op, Kids: make([]int, c.arity+1)}
		for _, n := range []int64{math.MinInt64, -1, 1, math.MaxInt64} {
			bad["op "+name+" with N "+impl.NumText(n)] = impl.ENode{Op: c.op, N: n, Kids: make([]int, c.arity)}
		}
	}
	return bad
}

// notToBeClosed are graphs whose Nodes and Parts Closed does not take either.
func notToBeClosed() map[string]impl.EGraph {
	bad := map[string]impl.EGraph{
		"Parts without Nodes":        {Parts: []int{0}},
		"Nodes without Parts":        {Nodes: []impl.ENode{eVar(0)}},
		"a part too few":             {Nodes: []impl.ENode{eVar(0), eVar(1)}, Parts: []int{0}},
		"a part too many":            {Nodes: []impl.ENode{eVar(0), eVar(1)}, Parts: []int{0, 1, 2}},
		"one more than MaxENodes":    manyNumbers(impl.MaxENodes + 1),
		"a chain of one more":        oneChain(impl.MaxENodes + 1),
		"many more than MaxENodes":   manyNumbers(500),
		"MaxENodes, a part too many": {Nodes: manyNumbers(impl.MaxENodes).Nodes, Parts: aloneEach(impl.MaxENodes + 1)},
		"one more, a part too few":   {Nodes: manyNumbers(impl.MaxENodes + 1).Nodes, Parts: aloneEach(impl.MaxENodes)},
	}
	for name, n := range badNodes() {
		bad[name] = graphOf(eVar(0), eVar(1), eVar(2), n)
		bad[name+", in the midst"] = graphOf(eVar(0), eVar(1), eVar(2), n, eVar(3), eNum(0))
	}
	for name, parts := range badParts() {
		bad["parts: "+name] = impl.EGraph{Nodes: manyNumbers(len(parts)).Nodes, Parts: parts}
	}
	return bad
}

func badGraphs() map[string]impl.EGraph {
	bad := notToBeClosed()
	a, b, c := eVar(0), eVar(1), eVar(2)
	for name, g := range map[string]impl.EGraph{
		"a kid that is no class":         {Nodes: []impl.ENode{a, b, eOp(impl.OpNeg, 1)}, Parts: []int{0, 0, 2}},
		"a second kid that is no class":  {Nodes: []impl.ENode{a, b, eOp(impl.OpAdd, 0, 1)}, Parts: []int{0, 0, 2}},
		"a third kid that is no class":   {Nodes: []impl.ENode{a, b, eOp(impl.OpIf, 0, 0, 1)}, Parts: []int{0, 0, 0}},
		"two numbers alike":              graphOf(eNum(5), eNum(5)),
		"two variables alike":            graphOf(a, b, a),
		"two sums alike":                 graphOf(a, b, eOp(impl.OpAdd, 0, 1), c, eOp(impl.OpAdd, 0, 1)),
		"two alike, one of another part": {Nodes: []impl.ENode{a, b, a, b}, Parts: []int{0, 1, 0, 0}},
		"three alike, the last alone":    {Nodes: []impl.ENode{a, a, a}, Parts: []int{0, 0, 2}},
		"three alike, the midst alone":   {Nodes: []impl.ENode{a, a, a}, Parts: []int{0, 1, 0}},
		"alike, kids joined but old":     {Nodes: []impl.ENode{a, b, eOp(impl.OpNeg, 0), eOp(impl.OpNeg, 1)}, Parts: []int{0, 0, 2, 3}},
		"alike behind joined kids":       {Nodes: []impl.ENode{a, b, eOp(impl.OpNeg, 0), eOp(impl.OpNeg, 0)}, Parts: []int{0, 0, 2, 3}},
	} {
		bad[name] = g
	}
	return bad
}

func TestMaxENodes(t *testing.T) {
	if impl.MaxENodes != 120 {
		t.Errorf("MaxENodes is %d, want 120", impl.MaxENodes)
	}
}

func goodGraphs() map[string]impl.EGraph {
	a, b := eVar(0), eVar(1)
	return map[string]impl.EGraph{
		"the zero graph":              {},
		"the empty graph":             {Nodes: []impl.ENode{}, Parts: []int{}},
		"one variable":                graphOf(a),
		"the last variable":           graphOf(eVar(impl.MaxVars - 1)),
		"the ends of numbers":         graphOf(eNum(math.MinInt64), eNum(math.MaxInt64), eNum(0)),
		"empty kids":                  graphOf(impl.ENode{Op: impl.OpVar, Kids: []int{}}),
		"sums":                        sums(false),
		"sums joined":                 sums(true),
		"two alike in one class":      {Nodes: []impl.ENode{a, a}, Parts: []int{0, 0}},
		"two sums alike in one class": {Nodes: []impl.ENode{a, b, eOp(impl.OpAdd, 0, 1), eOp(impl.OpAdd, 0, 1)}, Parts: []int{0, 1, 2, 2}},
		"unlike ones in one class":    {Nodes: []impl.ENode{a, b, eNum(1), eOp(impl.OpNeg, 0)}, Parts: []int{0, 0, 0, 0}},
		"the same kids, another op":   graphOf(a, b, eOp(impl.OpAdd, 0, 1), eOp(impl.OpSub, 0, 1)),
		"the same kids, turned":       graphOf(a, b, eOp(impl.OpSub, 0, 1), eOp(impl.OpSub, 1, 0)),
		"the number and the variable": graphOf(eNum(0), eVar(0)),
		"a choice":                    graphOf(a, b, eOp(impl.OpIf, 0, 1, 0), eOp(impl.OpIf, 0, 1, 1)),
		"MaxENodes numbers":           manyNumbers(impl.MaxENodes),
		"MaxENodes in a chain":        oneChain(impl.MaxENodes),
		"MaxENodes in one class":      graphByTable(oneChain(impl.MaxENodes).Nodes, append([]int{0, 0}, aloneEach(impl.MaxENodes)[2:]...)),
	}
}

func TestGoodGraph(t *testing.T) {
	for name, g := range goodGraphs() {
		if !impl.GoodGraph(g) {
			t.Errorf("%s: want a good graph", name)
		}
	}
	for name, g := range badGraphs() {
		if impl.GoodGraph(g) {
			t.Errorf("%s: want no good graph", name)
		}
	}
}

// Each op of chapter 1 has its place in a graph.
func TestNodesOfEachOp(t *testing.T) {
	for _, c := range opsWithParts {
		g := graphOf(eVar(0), impl.ENode{Op: c.op, Kids: make([]int, c.arity)})
		if !impl.GoodGraph(g) {
			t.Errorf("op %d: want a good graph", c.op)
		}
		expectAdded(t, graphOf(eVar(0)), g.Nodes[1], g, 1)
	}
}

// One thing of a good graph is changed, and what is then is held against the words.
func TestGoodGraphWhereOneThingIsChanged(t *testing.T) {
	r := rand.New(rand.NewSource(60))
	good := 0
	for range 4000 {
		g := randomGraph(r, 1+r.Intn(8))
		if !impl.GoodGraph(g) {
			t.Fatalf("want a good graph: %v", g)
		}
		changeOneThing(r, &g)
		want := goodGraphByTheWords(g)
		if impl.GoodGraph(g) != want {
			t.Fatalf("%v: want good %v", g, want)
		}
		if want {
			good++
		}
	}
	if good < 400 || good > 3600 {
		t.Errorf("%d of 4000 were good: too much of one kind", good)
	}
}

func changeOneThing(r *rand.Rand, g *impl.EGraph) {
	k := r.Intn(len(g.Nodes))
	n := &g.Nodes[k]
	switch r.Intn(6) {
	case 0:
		n.Op = r.Intn(14) - 1
	case 1:
		n.N = int64(r.Intn(7)) - 1
	case 2:
		if len(n.Kids) > 0 {
			n.Kids[r.Intn(len(n.Kids))] = r.Intn(len(g.Nodes)+2) - 1
		}
	case 3:
		n.Kids = append(n.Kids, 0)[r.Intn(2):]
	case 4:
		g.Parts[k] = r.Intn(len(g.Parts)+1) - 1
	case 5:
		g.Nodes[k] = g.Nodes[r.Intn(len(g.Nodes))]
	}
}

func TestNodesInAndClassesIn(t *testing.T) {
	g := sums(true)
	expectNodesIn(t, g, 0, 0, 1)
	expectNodesIn(t, g, 1, 0, 1)
	expectNodesIn(t, g, 2, 2, 3)
	expectNodesIn(t, g, 3, 2, 3)
	expectNodesIn(t, g, 4, 4)
	expectClassesIn(t, g, 0, 2, 4)
	expectClassesIn(t, sums(false), 0, 1, 2, 3, 4)
	all := aloneEach(impl.MaxENodes)
	expectClassesIn(t, manyNumbers(impl.MaxENodes), all...)
	one := goodGraphs()["MaxENodes in one class"]
	expectClassesIn(t, one, 0)
	expectNodesIn(t, one, impl.MaxENodes-1, all...)
}

func TestNodesInAndClassesInAsTheTableTells(t *testing.T) {
	r := rand.New(rand.NewSource(61))
	for range 100 {
		g := randomGraph(r, 1+r.Intn(20))
		o := onenessOf(g.Parts)
		var classes []int
		for k := range g.Nodes {
			expectNodesIn(t, g, k, o.with(k)...)
			if o.with(k)[0] == k {
				classes = append(classes, k)
			}
		}
		expectClassesIn(t, g, classes...)
	}
}

func TestAddNodeThatIsThere(t *testing.T) {
	for _, one := range []bool{false, true} {
		g := sums(one)
		for k, n := range g.Nodes {
			expectAdded(t, g, n, g, g.Parts[k])
		}
	}
	full := manyNumbers(impl.MaxENodes)
	expectAdded(t, full, eNum(impl.MaxENodes-1), full, impl.MaxENodes-1)
	expectAdded(t, full, eNum(0), full, 0)
}

func TestAddNodeWhoseKidsAreNoClasses(t *testing.T) {
	g := sums(true)
	for _, kids := range [][]int{{0, 0}, {0, 1}, {1, 0}, {1, 1}} {
		expectAdded(t, g, eOp(impl.OpAdd, kids...), g, 2)
	}
	want := impl.EGraph{Nodes: append(sums(true).Nodes, eOp(impl.OpIf, 2, 0, 4)), Parts: []int{0, 0, 2, 2, 4, 5}}
	expectAdded(t, g, eOp(impl.OpIf, 3, 1, 4), want, 5)
	expectAdded(t, want, eOp(impl.OpIf, 2, 1, 4), want, 5)
}

func TestAddNodeBehindAll(t *testing.T) {
	expectAdded(t, impl.EGraph{}, eVar(3), graphOf(eVar(3)), 0)
	expectAdded(t, graphOf(eVar(3)), eNum(3), graphOf(eVar(3), eNum(3)), 1)
	expectAdded(t, graphOf(eVar(3)), eOp(impl.OpNeg, 0), graphOf(eVar(3), eOp(impl.OpNeg, 0)), 1)
	g := sums(false)
	for _, n := range []impl.ENode{eOp(impl.OpAdd, 1, 0), eOp(impl.OpSub, 0, 1), eOp(impl.OpNeg, 4), eNum(0), eNum(6), eVar(2)} {
		expectAdded(t, g, n, graphOf(append(slices.Clone(g.Nodes), n)...), 5)
	}
	almost := manyNumbers(impl.MaxENodes - 1)
	expectAdded(t, almost, eNum(impl.MaxENodes-1), manyNumbers(impl.MaxENodes), impl.MaxENodes-1)
}

func TestAddNodeBeyondTheLimit(t *testing.T) {
	full := manyNumbers(impl.MaxENodes)
	expectNotAdded(t, "one more number", full, eNum(impl.MaxENodes))
	expectNotAdded(t, "a variable more", full, eVar(0))
	expectNotAdded(t, "a negative more", full, eOp(impl.OpNeg, impl.MaxENodes-1))
	one := goodGraphs()["MaxENodes in one class"]
	expectNotAdded(t, "a variable more in one class", one, eVar(1))
	expectAdded(t, one, eOp(impl.OpNeg, impl.MaxENodes-1), one, 0)
}

func TestAddNodeOfBadNodes(t *testing.T) {
	g := graphOf(eVar(0), eVar(1), eVar(2))
	for name, n := range badNodes() {
		expectNotAdded(t, name, g, n)
	}
	expectNotAdded(t, "a kid where there is none", impl.EGraph{}, eOp(impl.OpNeg, 0))
	expectNotAdded(t, "no node", impl.EGraph{}, impl.ENode{})
}

func TestAddNodeAsTheTableTells(t *testing.T) {
	r := rand.New(rand.NewSource(62))
	there := 0
	for range 1500 {
		g := randomGraph(r, r.Intn(15))
		n := randomENode(r, len(g.Nodes))
		want, class := putByTable(g, n)
		expectAdded(t, g, n, want, class)
		if len(want.Nodes) == len(g.Nodes) {
			there++
		}
	}
	if there < 100 || there > 1400 {
		t.Errorf("%d of 1500 were there: too much of one kind", there)
	}
}

func TestAddTerm(t *testing.T) {
	a, b := variable(0), variable(1)
	sum, twice := joinedNodes(impl.OpAdd, a, b), joinedNodes(impl.OpAdd, a, a)
	g := graphOf(eVar(0), eVar(1), eOp(impl.OpAdd, 0, 1))
	expectTermAdded(t, impl.EGraph{}, sum, g, 2)
	expectTermAdded(t, g, sum, g, 2)
	expectTermAdded(t, g, b, g, 1)
	expectTermAdded(t, g, twice, graphOf(append(slices.Clone(g.Nodes), eOp(impl.OpAdd, 0, 0))...), 3)
	expectTermAdded(t, impl.EGraph{}, twice, graphOf(eVar(0), eOp(impl.OpAdd, 0, 0)), 1)
	// Parts are put from the left, a choice's too, and each but once.
	choice := joinedNodes(impl.OpIf, twice, negated(b, 1), joinedNodes(impl.OpMul, num(4), negated(b, 1)))
	expectTermAdded(t, impl.EGraph{}, choice, graphOf(eVar(0), eOp(impl.OpAdd, 0, 0), eVar(1),
		eOp(impl.OpNeg, 2), eNum(4), eOp(impl.OpMul, 4, 3), eOp(impl.OpIf, 1, 3, 5)), 6)
}

func TestAddTermWithJoinedParts(t *testing.T) {
	a, b := variable(0), variable(1)
	g := sums(true)
	for _, term := range [][]impl.Node{
		joinedNodes(impl.OpAdd, a, b), joinedNodes(impl.OpAdd, b, a), joinedNodes(impl.OpAdd, b, b),
	} {
		expectTermAdded(t, g, term, g, 2)
	}
	want := impl.EGraph{Nodes: append(sums(true).Nodes, eOp(impl.OpNeg, 2), eOp(impl.OpSub, 5, 0)), Parts: []int{0, 0, 2, 2, 4, 5, 6}}
	term := joinedNodes(impl.OpSub, negated(joinedNodes(impl.OpAdd, b, b), 1), b)
	expectTermAdded(t, g, term, want, 6)
	expectTermAdded(t, want, term, want, 6)
}

func TestAddTermAtTheLimit(t *testing.T) {
	sum := joinedNodes(impl.OpAdd, variable(0), num(3))
	for room := range 4 {
		g := manyNumbers(impl.MaxENodes - room)
		if room < 2 {
			expectTermNotAdded(t, "too little room", g, sum)
			continue
		}
		at := len(g.Nodes)
		want := graphOf(append(slices.Clone(g.Nodes), eVar(0), eOp(impl.OpAdd, at, 3))...)
		expectTermAdded(t, g, sum, want, at+1)
	}
	full := oneChain(impl.MaxENodes)
	expectTermAdded(t, full, negated(variable(0), impl.MaxNodes-1), full, impl.MaxNodes-1)
	expectTermNotAdded(t, "a variable more", full, variable(1))
	long := negated(variable(0), impl.MaxNodes-1)
	expectTermAdded(t, impl.EGraph{}, long, oneChain(impl.MaxNodes), impl.MaxNodes-1)
}

func TestAddTermAndFindTermAsTheTableTells(t *testing.T) {
	r := rand.New(rand.NewSource(63))
	there := 0
	for range 800 {
		g := randomGraph(r, r.Intn(15))
		term := randomTerm(r, 1+r.Intn(4))
		want, class := putTermByTable(g, term, len(term)-1)
		expectTermAdded(t, g, term, want, class)
		expectFound(t, want, term, class)
		expectTermAdded(t, want, term, want, class)
		if len(want.Nodes) == len(g.Nodes) {
			there++
			expectFound(t, g, term, class)
		} else {
			expectNotFound(t, "a node would come behind", g, term)
		}
	}
	if there < 40 {
		t.Errorf("%d of 800 were there: too few", there)
	}
}

func TestAddTermOfManyNodes(t *testing.T) {
	r := rand.New(rand.NewSource(64))
	for range 60 {
		var g impl.EGraph
		for {
			term := randomTerm(r, 1+r.Intn(impl.MaxNodes))
			want, class := putTermByTable(g, term, len(term)-1)
			if len(want.Nodes) > impl.MaxENodes {
				expectTermNotAdded(t, "too many nodes", g, term)
				break
			}
			expectTermAdded(t, g, term, want, class)
			g = want
		}
	}
}

func TestFindTerm(t *testing.T) {
	a, b := variable(0), variable(1)
	g := sums(false)
	expectFound(t, g, a, 0)
	expectFound(t, g, b, 1)
	expectFound(t, g, num(7), 4)
	expectFound(t, g, joinedNodes(impl.OpAdd, a, b), 2)
	expectFound(t, g, joinedNodes(impl.OpAdd, a, a), 3)
	for _, term := range [][]impl.Node{
		joinedNodes(impl.OpAdd, b, a), joinedNodes(impl.OpSub, a, b), negated(a, 1), num(0), num(8), variable(2),
		joinedNodes(impl.OpAdd, a, num(8)), joinedNodes(impl.OpAdd, variable(3), a),
	} {
		expectNotFound(t, written(term), g, term)
		expectNotFound(t, "in the empty graph", impl.EGraph{}, term)
	}
	expectFound(t, sums(true), joinedNodes(impl.OpAdd, b, b), 2)
	expectFound(t, sums(true), b, 0)
}

func TestBadTermsAreNotPut(t *testing.T) {
	for name, term := range badTerms() {
		for _, g := range []impl.EGraph{{}, sums(true)} {
			expectTermNotAdded(t, name, g, term)
			expectNotFound(t, name, g, term)
		}
	}
}

func TestMergeOfOneClass(t *testing.T) {
	for _, g := range []impl.EGraph{sums(false), sums(true)} {
		for k := range g.Nodes {
			expectMerged(t, g, k, k, g)
			expectMerged(t, g, k, g.Parts[k], g)
		}
	}
	expectMerged(t, graphOf(eVar(0)), 0, 0, graphOf(eVar(0)))
}

func TestMergeMakesOthersOne(t *testing.T) {
	expectMerged(t, sums(false), 0, 1, sums(true))
	expectMerged(t, sums(false), 2, 3, impl.EGraph{Nodes: sums(false).Nodes, Parts: []int{0, 1, 2, 2, 4}})
	// Numbers that are no classes stand for theirs; kids become the lesser one.
	g := impl.EGraph{Nodes: sums(true).Nodes, Parts: []int{0, 0, 0, 0, 4}}
	g.Nodes[2].Kids, g.Nodes[3].Kids = []int{0, 0}, []int{0, 0}
	expectMerged(t, sums(true), 3, 1, g)
}

func TestMergeStepByStep(t *testing.T) {
	for _, length := range []int{2, 3, 4, 5, 9, impl.MaxENodes} {
		g := twoChains(length)
		want := impl.EGraph{}
		for k, n := range g.Nodes {
			want.Parts = append(want.Parts, k&^1)
			want.Nodes = append(want.Nodes, n)
			if k >= 2 {
				want.Nodes[k] = eOp(impl.OpNeg, (k-2)&^1)
			}
		}
		expectMerged(t, g, 0, 1, want)
		// From the far end nothing else becomes one.
		if length > 2 {
			last := impl.EGraph{Nodes: g.Nodes, Parts: slices.Clone(g.Parts)}
			last.Parts[length-1] = length - 2
			expectMerged(t, g, length-1, length-2, last)
		}
	}
}

func TestMergeAlongAChain(t *testing.T) {
	length := impl.MaxENodes
	g := oneChain(length)
	for _, step := range []int{1, 2, 7, length - 1} {
		want := impl.EGraph{}
		for k := range length {
			want.Parts = append(want.Parts, k%step)
			want.Nodes = append(want.Nodes, eOp(impl.OpNeg, (k+step-1)%step))
		}
		want.Nodes[0] = eVar(0)
		expectMerged(t, g, 0, step, want)
	}
}

// What becomes one may be nodes ahead of those that were merged.
func TestMergeOfLaterNodesThatBringsNothingAhead(t *testing.T) {
	g := graphOf(eVar(0), eVar(1), eOp(impl.OpAdd, 0, 1), eOp(impl.OpAdd, 1, 0), eOp(impl.OpNeg, 2), eOp(impl.OpNeg, 3), eOp(impl.OpMul, 4, 5))
	expectMerged(t, g, 2, 3, graphByTable(g.Nodes, []int{0, 1, 2, 2, 4, 4, 6}))
	expectMerged(t, g, 4, 5, graphByTable(g.Nodes, []int{0, 1, 2, 3, 4, 4, 6}))
	expectMerged(t, g, 6, 0, graphByTable(g.Nodes, []int{0, 1, 2, 3, 4, 5, 0}))
	expectMerged(t, g, 5, 1, graphByTable(g.Nodes, []int{0, 1, 2, 3, 4, 1, 6}))
}

func TestMergeAsTheTableTells(t *testing.T) {
	r := rand.New(rand.NewSource(65))
	brought := 0
	for range 300 {
		count := 1 + r.Intn(25)
		g := randomGraph(r, count)
		for range 3 {
			a, b := r.Intn(count), r.Intn(count)
			o := onenessOf(g.Parts)
			o.tie(a, b)
			joined := o.close().told()
			want := graphByTable(g.Nodes, joined)
			expectMerged(t, g, a, b, want)
			if !slices.Equal(joined, want.Parts) {
				brought++
			}
			g = want
		}
	}
	if brought < 50 {
		t.Errorf("%d of 900 made others one: too few", brought)
	}
}

func TestMergeInAnyOrder(t *testing.T) {
	r := rand.New(rand.NewSource(66))
	for range 60 {
		count := 2 + r.Intn(60)
		first := randomGraph(r, count)
		pairs := make([][2]int, 4)
		for k := range pairs {
			pairs[k] = [2]int{r.Intn(count), r.Intn(count)}
		}
		want := first
		for _, p := range pairs {
			want, _ = impl.Merge(want, p[0], p[1])
		}
		slices.Reverse(pairs)
		got := first
		for _, p := range pairs {
			got, _ = impl.Merge(got, p[1], p[0])
		}
		expectGraph(t, "in another order", got, true, want)
	}
}

func TestClosed(t *testing.T) {
	g := sums(false)
	expectClosed(t, g.Nodes, []int{0, 1, 2, 3, 4}, 0, 1, 2, 3, 4)
	expectClosed(t, g.Nodes, []int{0, 0, 2, 3, 4}, 0, 0, 2, 2, 4)
	expectClosed(t, g.Nodes, []int{0, 0, 2, 2, 4}, 0, 0, 2, 2, 4)
	expectClosed(t, g.Nodes, []int{0, 0, 2, 3, 3}, 0, 0, 2, 2, 2)
	expectClosed(t, g.Nodes, []int{0, 0, 2, 0, 4}, 0, 0, 0, 0, 4)
	expectClosed(t, nil, nil)
	expectClosed(t, []impl.ENode{}, []int{})
	expectClosed(t, []impl.ENode{eVar(0)}, []int{0}, 0)
}

// A graph may not have two that are alike; Closed makes them one.
func TestClosedOfWhatIsAlike(t *testing.T) {
	a, b := eVar(0), eVar(1)
	expectClosed(t, []impl.ENode{a, a}, []int{0, 1}, 0, 0)
	expectClosed(t, []impl.ENode{a, b, a, b}, []int{0, 1, 2, 3}, 0, 1, 0, 1)
	expectClosed(t, []impl.ENode{a, b, a, b}, []int{0, 1, 2, 2}, 0, 0, 0, 0)
	expectClosed(t, []impl.ENode{eNum(0), a, eNum(1), eVar(2)}, []int{0, 1, 2, 3}, 0, 1, 2, 3)
	expectClosed(t, []impl.ENode{a, a, eOp(impl.OpNeg, 0), eOp(impl.OpNeg, 1)}, []int{0, 1, 2, 3}, 0, 0, 2, 2)
	expectClosed(t, []impl.ENode{a, a, eOp(impl.OpAdd, 0, 1), eOp(impl.OpAdd, 1, 0), eOp(impl.OpSub, 0, 1)}, []int{0, 1, 2, 3, 4}, 0, 0, 2, 2, 4)
	same := make([]impl.ENode, impl.MaxENodes)
	for k := range same {
		same[k] = eNum(9)
	}
	expectClosed(t, same, aloneEach(impl.MaxENodes), make([]int, impl.MaxENodes)...)
}

func TestClosedOfKidsThatAreNoClasses(t *testing.T) {
	nodes := []impl.ENode{eVar(0), eVar(1), eVar(2), eOp(impl.OpIf, 0, 1, 2), eOp(impl.OpIf, 2, 1, 0), eOp(impl.OpNeg, 3), eOp(impl.OpNeg, 4)}
	expectClosed(t, nodes, []int{0, 1, 2, 3, 4, 5, 6}, 0, 1, 2, 3, 4, 5, 6)
	expectClosed(t, nodes, []int{0, 1, 0, 3, 4, 5, 6}, 0, 1, 0, 3, 3, 5, 5)
	expectClosed(t, nodes, []int{0, 0, 2, 3, 4, 5, 6}, 0, 0, 2, 3, 4, 5, 6)
	expectClosed(t, nodes, []int{0, 0, 2, 3, 3, 5, 6}, 0, 0, 2, 3, 3, 5, 5)
}

func TestClosedAlongChains(t *testing.T) {
	g := twoChains(impl.MaxENodes)
	var pairs []int
	for k := range g.Parts {
		pairs = append(pairs, k&^1)
	}
	g.Parts[1] = 0
	expectClosed(t, g.Nodes, g.Parts, pairs...)
	one := oneChain(impl.MaxENodes)
	one.Parts[1] = 0
	expectClosed(t, one.Nodes, one.Parts, make([]int, impl.MaxENodes)...)
}

// Promise 6: all whose parts are one are joined, nothing else is, and again changes nothing.
func TestClosedAsTheTableTells(t *testing.T) {
	r := rand.New(rand.NewSource(67))
	brought := 0
	for range 600 {
		count := 1 + r.Intn(25)
		nodes, parts := randomENodes(r, count), fewParts(r, count)
		want := closedByTable(nodes, parts)
		expectClosed(t, nodes, parts, want...)
		if !slices.Equal(parts, want) {
			brought++
		}
	}
	if brought < 200 {
		t.Errorf("%d of 600 joined something: too few", brought)
	}
	for range 10 {
		nodes, parts := randomENodes(r, impl.MaxENodes), fewParts(r, impl.MaxENodes)
		expectClosed(t, nodes, parts, closedByTable(nodes, parts)...)
	}
}

// Chains with several branches: each joining brings the next, in unlike orders.
func TestClosedOfDeepNodesAsTheTableTells(t *testing.T) {
	r := rand.New(rand.NewSource(68))
	for range 100 {
		count := 10 + r.Intn(50)
		var nodes []impl.ENode
		for k := range count {
			switch {
			case k < 4:
				nodes = append(nodes, eVar(int64(k)))
			case r.Intn(2) == 0:
				nodes = append(nodes, eOp(impl.OpNeg, k-1-r.Intn(4)))
			default:
				nodes = append(nodes, eOp(impl.OpAdd, k-1-r.Intn(4), k-1-r.Intn(4)))
			}
		}
		parts := fewParts(r, count)
		parts[1], parts[2] = 0, 0
		parts = onenessOf(parts).told()
		expectClosed(t, nodes, parts, closedByTable(nodes, parts)...)
	}
}

// What a good graph has is closed already.
func TestGoodGraphsAreClosed(t *testing.T) {
	r := rand.New(rand.NewSource(69))
	for name, g := range goodGraphs() {
		got, ok := impl.Closed(g.Nodes, g.Parts)
		expectList(t, name, got, ok, g.Parts...)
	}
	for range 200 {
		g := randomGraph(r, r.Intn(30))
		expectClosed(t, g.Nodes, g.Parts, g.Parts...)
	}
}

func TestTheEmptyGraph(t *testing.T) {
	for _, g := range []impl.EGraph{{}, {Nodes: []impl.ENode{}, Parts: []int{}}, {Nodes: make([]impl.ENode, 0, 3), Parts: make([]int, 0, 3)}} {
		if !impl.GoodGraph(g) {
			t.Error("the empty graph: want good")
		}
		expectClassesIn(t, g)
		expectClosed(t, g.Nodes, g.Parts)
		for _, k := range []int{-1, 0, 1} {
			expectNodesNotThere(t, g, k)
		}
	}
}

// expectNodesNotThere asks for k, which is none of g's nodes, at every place.
func expectNodesNotThere(t *testing.T, g impl.EGraph, k int) {
	t.Helper()
	nodes, ok := impl.NodesIn(g, k)
	expectNoList(t, "NodesIn", nodes, ok)
	for _, pair := range [][2]int{{k, 0}, {0, k}, {k, k}} {
		got, ok := impl.Merge(g, pair[0], pair[1])
		expectNoGraph(t, "Merge", got, ok)
		expectNotAdded(t, "kids not there", g, eOp(impl.OpAdd, pair[0], pair[1]))
	}
	expectNotAdded(t, "a kid not there", g, eOp(impl.OpNeg, k))
	expectNotAdded(t, "a third kid not there", g, eOp(impl.OpIf, 0, 0, k))
}

func TestNodesThatAreNotThere(t *testing.T) {
	for _, g := range []impl.EGraph{graphOf(eVar(0)), sums(true), sums(false), oneChain(impl.MaxENodes - 1)} {
		length := len(g.Nodes)
		for _, k := range []int{-1, -2, length, length + 1, impl.MaxENodes, math.MinInt, math.MaxInt} {
			expectNodesNotThere(t, g, k)
		}
	}
}

func TestBadGraphsHaveTheZeroAnswer(t *testing.T) {
	for name, g := range badGraphs() {
		expectNotAdded(t, name, g, eVar(3))
		expectNotAdded(t, name, g, eVar(0))
		expectTermNotAdded(t, name, g, variable(0))
		expectNotFound(t, name, g, variable(0))
		merged, ok := impl.Merge(g, 0, 0)
		expectNoGraph(t, "Merge, "+name, merged, ok)
		nodes, ok := impl.NodesIn(g, 0)
		expectNoList(t, "NodesIn, "+name, nodes, ok)
		classes, ok := impl.ClassesIn(g)
		expectNoList(t, "ClassesIn, "+name, classes, ok)
	}
	for name, g := range notToBeClosed() {
		parts, ok := impl.Closed(g.Nodes, g.Parts)
		expectNoList(t, "Closed, "+name, parts, ok)
	}
}

// graphWithTail hands a graph over with nodes and numbers behind its lengths;
// the nodes behind would make it no good graph.
func graphWithTail(g impl.EGraph) impl.EGraph {
	all := []impl.ENode{}
	for _, n := range g.Nodes {
		all = append(all, nodeWithTail(n))
	}
	all = append(all, eNum(81), impl.ENode{Op: 99}, eOp(impl.OpAdd, -1, 500))
	return impl.EGraph{Nodes: all[:len(g.Nodes)], Parts: withNumbersBehind(g.Parts)}
}

func nodeWithTail(n impl.ENode) impl.ENode {
	return impl.ENode{Op: n.Op, N: n.N, Kids: withNumbersBehind(n.Kids)}
}

// expectTail looks whether a graph and what lies behind its lengths is as graphWithTail made it.
func expectTail(t *testing.T, what string, g, before impl.EGraph) {
	t.Helper()
	if !sameGraph(g, before) {
		t.Fatalf("%s: the graph is %v, was %v", what, g, before)
	}
	want := []impl.ENode{eNum(81), {Op: 99}, eOp(impl.OpAdd, -1, 500)}
	if behind := g.Nodes[:len(g.Nodes)+3][len(g.Nodes):]; !slices.EqualFunc(behind, want, sameENode) {
		t.Fatalf("%s: behind the nodes are %v", what, behind)
	}
	expectNumbersBehind(t, what, g.Parts)
	for _, n := range g.Nodes {
		expectNumbersBehind(t, what, n.Kids)
	}
}

func expectNumbersBehind(t *testing.T, what string, l []int) {
	t.Helper()
	if behind := l[:len(l)+3][len(l):]; !slices.Equal(behind, []int{71, 72, 73}) {
		t.Fatalf("%s: behind the list are %v", what, behind)
	}
}

// spoilGraph writes over all of a graph's memory, its nodes' kids first.
func spoilGraph(g impl.EGraph) {
	nodes := g.Nodes[:cap(g.Nodes)]
	for k := range nodes {
		spoilNumbers(nodes[k].Kids)
		nodes[k] = impl.ENode{Op: -99, N: -99}
	}
	spoilNumbers(g.Parts)
}

func TestGraphsThatAreHandedInStayAsTheyAre(t *testing.T) {
	before := map[string]impl.EGraph{"random": randomGraph(rand.New(rand.NewSource(70)), 12)}
	for name, g := range goodGraphs() {
		before[name] = g
	}
	for name, g := range badGraphs() {
		before["bad: "+name] = g
	}
	nodes := []impl.ENode{eVar(0), eVar(3), eOp(impl.OpAdd, 0, 1), eOp(impl.OpNeg, 1), eOp(impl.OpNeg, -1)}
	term := joinedNodes(impl.OpAdd, variable(0), negated(variable(1), 1))
	for name, was := range before {
		for _, pair := range [][2]int{{0, 0}, {0, 1}, {3, 2}, {-1, 500}} {
			g, asked := graphWithTail(was), withTail(term)
			impl.GoodGraph(g)
			impl.FindTerm(g, asked)
			merged, _ := impl.Merge(g, pair[0], pair[1])
			spoilGraph(merged)
			expectTail(t, "Merge, "+name, g, was)
			added, _, _ := impl.AddTerm(g, asked)
			spoilGraph(added)
			expectTail(t, "AddTerm, "+name, g, was)
			if !slices.Equal(asked, term) || !slices.Equal(asked[:cap(asked)], withTail(term)[:cap(asked)]) {
				t.Fatalf("AddTerm, %s: the term is %v", name, asked[:cap(asked)])
			}
			in, _ := impl.NodesIn(g, pair[0])
			spoilNumbers(in)
			classes, _ := impl.ClassesIn(g)
			spoilNumbers(classes)
			closed, _ := impl.Closed(g.Nodes, g.Parts)
			spoilNumbers(closed)
			expectTail(t, "lists, "+name, g, was)
		}
		for _, n := range nodes {
			g, put := graphWithTail(was), nodeWithTail(n)
			added, _, _ := impl.AddNode(g, put)
			spoilGraph(added)
			expectTail(t, "AddNode, "+name, g, was)
			if !sameENode(put, n) {
				t.Fatalf("AddNode, %s: the node is %v, was %v", name, put, n)
			}
			expectNumbersBehind(t, "AddNode, "+name, put.Kids)
		}
	}
}

// expectOwnMemory writes over one list of a graph at a time, behind its
// length too, and looks at all others.
func expectOwnMemory(t *testing.T, what string, g impl.EGraph) {
	t.Helper()
	lists := [][]int{g.Parts}
	for _, n := range g.Nodes {
		lists = append(lists, n.Kids)
	}
	var before [][]int
	for _, l := range lists {
		before = append(before, slices.Clone(l))
	}
	for k, l := range lists {
		spoilNumbers(l)
		for other := range lists {
			if other != k && !slices.Equal(lists[other], before[other]) {
				t.Fatalf("%s: lists %d and %d share memory", what, k, other)
			}
		}
		copy(l, before[k])
	}
}

func TestNoTwoListsOfAGraphShareMemory(t *testing.T) {
	kids := []int{0, 0}
	shared := impl.EGraph{Nodes: []impl.ENode{eVar(0), {Op: impl.OpAdd, Kids: kids}, {Op: impl.OpSub, Kids: kids}, eVar(1)}, Parts: aloneEach(4)}
	for _, g := range []impl.EGraph{shared, sums(true), oneChain(20), {}} {
		for k := range len(g.Nodes) {
			merged, _ := impl.Merge(g, 0, k)
			expectOwnMemory(t, "Merge", merged)
		}
		for _, term := range []string{"a", "c", "((a+a)+(b-a))", "((a+b)?(a-a):~~~~b)"} {
			added, _, _ := impl.AddTerm(g, ringTerm(t, term))
			expectOwnMemory(t, "AddTerm", added)
		}
		added, _, _ := impl.AddNode(g, impl.ENode{Op: impl.OpMul, Kids: kids})
		expectOwnMemory(t, "AddNode", added)
	}
	if !slices.Equal(kids, []int{0, 0}) {
		t.Errorf("the kids are %v", kids)
	}
}

// Whatever is built on an answer, the graph that it came from stays as it is.
func TestGraphsBuiltOnOneGraphAreNotTied(t *testing.T) {
	first, _, _ := impl.AddTerm(impl.EGraph{}, ringTerm(t, "((a+b)*(c+d))"))
	want := graphByTable(first.Nodes, first.Parts)
	one, _, _ := impl.AddNode(first, eNum(1))
	two, _, _ := impl.AddNode(first, eNum(2))
	merged, _ := impl.Merge(first, 0, 1)
	expectGraph(t, "the first", first, true, want)
	if one.Nodes[7].N != 1 || two.Nodes[7].N != 2 || len(merged.Nodes) != 7 {
		t.Errorf("the graphs are %v, %v, %v", one, two, merged)
	}
}

func TestTheSameGraphHasTheSameAnswer(t *testing.T) {
	r := rand.New(rand.NewSource(71))
	for range 20 {
		g := randomGraph(r, 40)
		a, b := r.Intn(40), r.Intn(40)
		term := randomTerm(r, 9)
		merged, _ := impl.Merge(g, a, b)
		added, class, _ := impl.AddTerm(g, term)
		for range 3 {
			expectMerged(t, g, a, b, merged)
			expectTermAdded(t, g, term, added, class)
		}
	}
}

// What is joined in a graph comes to the same where what was merged did.
func TestWhatIsMergedComesToTheSame(t *testing.T) {
	r := rand.New(rand.NewSource(72))
	for range 100 {
		s, u := randomTerm(r, 1+r.Intn(9)), randomTerm(r, 1+r.Intn(9))
		env := []int64{int64(r.Intn(3)), int64(r.Intn(3)), 1, 1}
		g, _, _ := impl.AddTerm(impl.EGraph{}, s)
		g, _, _ = impl.AddTerm(g, u)
		values := valuesOfNodes(g.Nodes, env)
		for a := range g.Nodes {
			for b := range a {
				if values[a] == values[b] {
					g, _ = impl.Merge(g, a, b)
				}
			}
		}
		for k, least := range g.Parts {
			if values[k] != values[least] {
				t.Fatalf("%s and %s at %v: nodes %d and %d are one", written(s), written(u), env, k, least)
			}
		}
	}
}

type valued struct {
	n     int64
	traps bool
}

// valuesOfNodes has a trap where any kid traps: for choices that is another
// function than chapter 2 tells, but one that hangs on the kids alone.
func valuesOfNodes(nodes []impl.ENode, env []int64) []valued {
	values := make([]valued, len(nodes))
	for k, n := range nodes {
		switch n.Op {
		case impl.OpNum:
			values[k].n = n.N
			continue
		case impl.OpVar:
			values[k].n = env[n.N]
			continue
		}
		var args []int64
		for _, kid := range n.Kids {
			args = append(args, values[kid].n)
			values[k].traps = values[k].traps || values[kid].traps
		}
		got, traps, _ := impl.DoOp(n.Op, args)
		if traps || values[k].traps {
			values[k] = valued{0, true}
		} else {
			values[k].n = got
		}
	}
	return values
}
