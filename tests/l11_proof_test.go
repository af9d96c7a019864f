package tests

import (
	"math"
	"math/rand"
	"slices"
	"testing"
	"time"

	"loop.example/g00694/impl"
)

// What CheckProof tells, as the document numbers it.
const (
	taken = iota
	notAsSaid
	noNodes
	noReason
	notRight
)

func proofOf(nodes []impl.ENode, links ...impl.Link) impl.Proof {
	return impl.Proof{Nodes: nodes, Links: links}
}

func link(a, b, rule int) impl.Link { return impl.Link{A: a, B: b, Rule: rule} }

func sameProof(p, q impl.Proof) bool {
	return slices.EqualFunc(p.Nodes, q.Nodes, sameENode) && slices.Equal(p.Links, q.Links)
}

// rightNumbers tells of each rule whether it is right, by the words of chapter 8.
func rightNumbers(t *testing.T, rules []impl.Rule) []bool {
	t.Helper()
	right := make([]bool, len(rules))
	for k, r := range rules {
		right[k] = checkedByTheWords(t, r) == 0
	}
	return right
}

// A proving is a proof that is gone through by the words: its parts are a
// table, and of a rule all binds are tried.
type proving struct {
	nodes []impl.ENode
	rules []impl.Rule
	right []bool
	one   oneness
}

func provingOf(nodes []impl.ENode, rules []impl.Rule, right []bool) proving {
	return proving{nodes, rules, right, onenessOf(aloneEach(len(nodes)))}
}

func (p proving) code(l impl.Link) int {
	switch {
	case l.A < 0 || l.B < 0 || l.A >= len(p.nodes) || l.B >= len(p.nodes):
		return noNodes
	case l.Rule == -1 && alikeByTable(p.one, p.nodes[l.A], p.nodes[l.B]):
		return taken
	case l.Rule == -1:
		return notRight
	case l.Rule < 0 || l.Rule >= len(p.rules) || !p.right[l.Rule]:
		return noReason
	}
	g := impl.EGraph{Parts: p.one.told()}
	for _, n := range p.nodes {
		g.Nodes = append(g.Nodes, kidsByParts(n, g.Parts))
	}
	r := p.rules[l.Rule]
	vars, _ := impl.VarsIn(r.Left)
	if someBindMatches(g, r, g.Parts[l.A], g.Parts[l.B], bindOf(), vars) {
		return taken
	}
	return notRight
}

// someBindMatches tries each part for each of the variables that are left.
func someBindMatches(g impl.EGraph, r impl.Rule, a, b int, bind, vars []int) bool {
	if len(vars) == 0 {
		return matchesByTheWords(g, r.Left, len(r.Left)-1, a, bind) && matchesByTheWords(g, r.Right, len(r.Right)-1, b, bind)
	}
	for k, least := range g.Parts {
		if k != least {
			continue
		}
		bind[vars[0]] = k
		if someBindMatches(g, r, a, b, bind, vars[1:]) {
			return true
		}
	}
	return false
}

func (p proving) join(l impl.Link) {
	p.one.tie(l.A, l.B)
	p.one.close()
}

func checkedByTable(p impl.Proof, rules []impl.Rule, right []bool) ([]int, int, int) {
	w := provingOf(p.Nodes, rules, right)
	for k, l := range p.Links {
		if code := w.code(l); code != taken {
			return nil, code, k
		}
		w.join(l)
	}
	return w.one.told(), taken, 0
}

// A record is a growth by tables that writes down what it does.
type record struct {
	graph impl.EGraph
	nodes []impl.ENode
	links []impl.Link
	// How often the nodes were gone through, at most, with something to link.
	deep int
}

func (p *record) apply(r impl.Rule, number int, f impl.Found, nodes int) bool {
	with, class := instByTable(p.graph, r.Right, len(r.Right)-1, f.Bind)
	if len(with.Nodes) > nodes {
		return false
	}
	for _, n := range with.Nodes[len(p.nodes):] {
		p.nodes = append(p.nodes, impl.ENode{Op: n.Op, N: n.N, Kids: slices.Clone(n.Kids)})
	}
	o := onenessOf(with.Parts)
	p.tie(o, f.Class, class, number)
	p.closeUp(o)
	p.graph = impl.EGraph{Parts: o.told()}
	for _, n := range p.nodes {
		p.graph.Nodes = append(p.graph.Nodes, kidsByParts(n, p.graph.Parts))
	}
	return true
}

func (p *record) tie(o oneness, a, b, rule int) {
	if !o[a][b] {
		o.tie(a, b)
		o.close()
		p.links = append(p.links, link(a, b, rule))
	}
}

func (p *record) closeUp(o oneness) {
	for times, before := 0, -1; before < len(p.links); times++ {
		before = len(p.links)
		for k := range p.nodes {
			for ahead := range k {
				if alikeByTable(o, p.nodes[ahead], p.nodes[k]) {
					p.tie(o, ahead, k, -1)
				}
			}
		}
		if before < len(p.links) {
			p.deep = max(p.deep, times+1)
		}
	}
}

func (p *record) round(rules []impl.Rule, right []bool, nodes int) bool {
	first := p.graph
	for number, r := range rules {
		for class, least := range first.Parts {
			if class != least || !right[number] {
				continue
			}
			for _, bind := range wantBinds(first, r.Left, class) {
				if !p.apply(r, number, foundNow(p.graph, class, bind), nodes) {
					return false
				}
			}
		}
	}
	return true
}

// recorded is what growing does, round by round, and the code that it ends with.
func recorded(term []impl.Node, rules []impl.Rule, right []bool, rounds, nodes int) (*record, int) {
	var p record
	p.graph, _ = putTermByTable(p.graph, term, len(term)-1)
	p.nodes = slices.Clone(p.graph.Nodes)
	for range rounds {
		before := p.graph.Parts
		if !p.round(rules, right, nodes) {
			return &p, impl.GwNodes
		}
		if slices.Equal(before, p.graph.Parts) {
			return &p, impl.GwStill
		}
	}
	return &p, impl.GwRounds
}

func expectTaken(t *testing.T, what string, rules []impl.Rule, p impl.Proof, want ...int) {
	t.Helper()
	parts, code, at, ok := impl.CheckProof(rules, p)
	if !ok || code != taken || at != 0 || !slices.Equal(parts, want) {
		t.Errorf("CheckProof, %s: got %v, code %d at %d, %v, want %v, 0, 0, true", what, parts, code, at, ok, want)
	}
}

func expectFaulty(t *testing.T, what string, rules []impl.Rule, p impl.Proof, wantCode, wantAt int) {
	t.Helper()
	parts, code, at, ok := impl.CheckProof(rules, p)
	if !ok || code != wantCode || at != wantAt || len(parts) != 0 {
		t.Errorf("CheckProof, %s: got %v, code %d at %d, %v, want none, %d, %d, true", what, parts, code, at, ok, wantCode, wantAt)
	}
}

func expectUnchecked(t *testing.T, what string, rules []impl.Rule, p impl.Proof) {
	t.Helper()
	parts, code, at, ok := impl.CheckProof(rules, p)
	if ok || code != 0 || at != 0 || len(parts) != 0 {
		t.Errorf("CheckProof, %s: got %v, code %d at %d, %v, want zero and false", what, parts, code, at, ok)
	}
	expectUnshown(t, what, rules, p, 0, 0)
	expectUnshown(t, what, rules, p, len(p.Nodes)-1, 0)
}

func expectShown(t *testing.T, what string, rules []impl.Rule, p impl.Proof, a, b int, want bool) {
	t.Helper()
	if is, ok := impl.ShowsSame(rules, p, a, b); is != want || !ok {
		t.Errorf("ShowsSame of %d and %d, %s: got %v, %v, want %v, true", a, b, what, is, ok, want)
	}
}

func expectUnshown(t *testing.T, what string, rules []impl.Rule, p impl.Proof, a, b int) {
	t.Helper()
	if is, ok := impl.ShowsSame(rules, p, a, b); is || ok {
		t.Errorf("ShowsSame of %d and %d, %s: got %v, %v, want false, false", a, b, what, is, ok)
	}
}

func expectDropped(t *testing.T, what string, p impl.Proof, k int, want impl.Proof) {
	t.Helper()
	if got, ok := impl.DropLink(p, k); !ok || !sameProof(got, want) {
		t.Errorf("DropLink %d, %s: got %v, %v, want %v, true", k, what, got, ok, want)
	}
}

func expectNotDropped(t *testing.T, what string, p impl.Proof, k int) {
	t.Helper()
	if got, ok := impl.DropLink(p, k); ok || len(got.Nodes) != 0 || len(got.Links) != 0 {
		t.Errorf("DropLink %d, %s: got %v, %v, want none, false", k, what, got, ok)
	}
}

func expectProof(t *testing.T, what string, term []impl.Node, rules []impl.Rule, rounds, nodes int, want impl.Proof) {
	t.Helper()
	got, ok := impl.ProofFor(term, rules, rounds, nodes)
	if !ok || !sameProof(got, want) {
		t.Errorf("ProofFor %s, %s: got %v, %v, want %v, true", written(term), what, got, ok, want)
	}
	expectAsGrown(t, what, got, term, rules, rounds, nodes)
}

// expectAsGrown holds a proof against the graph that growing tells.
func expectAsGrown(t *testing.T, what string, p impl.Proof, term []impl.Node, rules []impl.Rule, rounds, nodes int) {
	t.Helper()
	g, _, _ := impl.AddTerm(impl.EGraph{}, term)
	grown, _, _, _ := impl.Saturate(g, rules, rounds, nodes)
	expectTaken(t, what, rules, p, grown.Parts...)
	if len(p.Nodes) != len(grown.Nodes) || len(p.Links) > impl.MaxLinks {
		t.Fatalf("%s: %d nodes and %d links, where growing has %d nodes", what, len(p.Nodes), len(p.Links), len(grown.Nodes))
	}
	for k, n := range p.Nodes {
		if !sameENode(kidsByParts(n, grown.Parts), grown.Nodes[k]) {
			t.Errorf("%s: node %d is %v in the proof, and %v in the graph", what, k, n, grown.Nodes[k])
		}
	}
	if classes := classesOf(grown); len(p.Links) != len(grown.Nodes)-len(classes) {
		t.Errorf("%s: %d links for %d nodes in %d classes", what, len(p.Links), len(grown.Nodes), len(classes))
	}
}

func expectNoProof(t *testing.T, what string, term []impl.Node, rules []impl.Rule, rounds, nodes int) {
	t.Helper()
	if got, ok := impl.ProofFor(term, rules, rounds, nodes); ok || len(got.Nodes) != 0 || len(got.Links) != 0 {
		t.Errorf("ProofFor, %s: got %v, %v, want none, false", what, got, ok)
	}
}

// negatedSums has a, 0, (a+0), ~(a+0) and ~a.
func negatedSums() []impl.ENode {
	return []impl.ENode{eVar(0), eNum(0), eOp(impl.OpAdd, 0, 1), eOp(impl.OpNeg, 2), eOp(impl.OpNeg, 0)}
}

func TestMaxLinks(t *testing.T) {
	if impl.MaxLinks != 300 {
		t.Errorf("MaxLinks is %d, want 300", impl.MaxLinks)
	}
}

func TestCheckProof(t *testing.T) {
	fold := rulesOf(t, "(a+0)=>a")
	nodes := negatedSums()
	expectTaken(t, "a rule", fold, proofOf(nodes, link(2, 0, 0)), 0, 1, 0, 3, 4)
	expectTaken(t, "a rule, and kids that are one by that", fold, proofOf(nodes, link(2, 0, 0), link(3, 4, -1)), 0, 1, 0, 3, 3)
	expectTaken(t, "turned", fold, proofOf(nodes, link(2, 0, 0), link(4, 3, -1)), 0, 1, 0, 3, 3)
	expectFaulty(t, "kids that are one only behind it", fold, proofOf(nodes, link(3, 4, -1), link(2, 0, 0)), notRight, 0)
	expectFaulty(t, "kids that are not one", fold, proofOf(nodes, link(3, 4, -1)), notRight, 0)
	expectFaulty(t, "the rule turned round", fold, proofOf(nodes, link(0, 2, 0)), notRight, 0)
	expectFaulty(t, "a node that the rule does not match", fold, proofOf(nodes, link(3, 0, 0)), notRight, 0)
	expectFaulty(t, "another right", fold, proofOf(nodes, link(2, 1, 0)), notRight, 0)
	expectFaulty(t, "the second link", fold, proofOf(nodes, link(2, 0, 0), link(2, 3, 0)), notRight, 1)
}

func TestProofsWithoutNodesOrLinks(t *testing.T) {
	for _, rules := range [][]impl.Rule{nil, {}, rulesOf(t, "(a+0)=>a"), rulesOf(t, "a=>b")} {
		for _, p := range []impl.Proof{{}, {Nodes: []impl.ENode{}, Links: []impl.Link{}}, {Nodes: make([]impl.ENode, 0, 3), Links: make([]impl.Link, 0, 3)}} {
			expectTaken(t, "nothing", rules, p)
			for _, k := range []int{-1, 0, 1, math.MinInt, math.MaxInt} {
				expectUnshown(t, "no nodes", rules, p, k, k)
				expectNotDropped(t, "no links", p, k)
			}
		}
		for _, k := range []int{-1, 0, 1} {
			expectFaulty(t, "a link without nodes", rules, proofOf(nil, link(k, k, -1)), noNodes, 0)
			expectFaulty(t, "a link without nodes", rules, proofOf(nil, link(k, k, 0)), noNodes, 0)
		}
		for _, g := range []impl.EGraph{graphOf(eVar(0)), sums(false), oneChain(impl.MaxENodes), manyNumbers(impl.MaxENodes)} {
			p := proofOf(g.Nodes)
			expectTaken(t, "no links", rules, p, g.Parts...)
			for k := range g.Nodes {
				expectShown(t, "no links", rules, p, k, 0, k == 0)
				expectShown(t, "no links", rules, p, k, k, true)
			}
			expectNotDropped(t, "no links", p, 0)
		}
	}
}

// badProofNodes are lists that Closed does not take, whatever the parts.
func badProofNodes() map[string][]impl.ENode {
	bad := map[string][]impl.ENode{
		"one more than MaxENodes":  manyNumbers(impl.MaxENodes + 1).Nodes,
		"a chain of one more":      oneChain(impl.MaxENodes + 1).Nodes,
		"many more than MaxENodes": manyNumbers(1000).Nodes,
		"the zero node alone":      {{}},
		"a first node with a kid":  {eOp(impl.OpNeg, 0)},
	}
	for name, n := range badNodes() {
		bad[name] = []impl.ENode{eVar(0), eVar(0), eVar(2), n}
		bad[name+", in the midst"] = []impl.ENode{eVar(0), eVar(0), eVar(2), n, eVar(3), eNum(0)}
	}
	return bad
}

func TestNodesThatClosedDoesNotTake(t *testing.T) {
	fold := rulesOf(t, "(a+0)=>a", "(a-a)=>0")
	for name, nodes := range badProofNodes() {
		if parts, ok := impl.Closed(nodes, aloneEach(len(nodes))); ok {
			t.Fatal(name, "is taken by Closed:", parts)
		}
		for _, p := range []impl.Proof{proofOf(nodes), proofOf(nodes, link(0, 1, -1)), proofOf(nodes, link(0, 0, 0)), proofOf(nodes, link(-1, 5000, 9), link(0, 1, 1)),
			{Nodes: nodes, Links: make([]impl.Link, impl.MaxLinks+1)}} {
			expectFaulty(t, name, fold, p, notAsSaid, 0)
			for k := range nodes {
				expectShown(t, name, fold, p, k, k, false)
				expectShown(t, name, fold, p, 0, k, false)
			}
			expectUnshown(t, name, fold, p, -1, 0)
			expectUnshown(t, name, fold, p, 0, len(nodes))
		}
	}
}

// Kids need be no classes, and nodes that are alike may be of unlike parts.
func TestNodesThatClosedTakes(t *testing.T) {
	fold := rulesOf(t, "(a+0)=>a")
	a, nought, sum := eVar(0), eNum(0), eOp(impl.OpAdd, 0, 1)
	nodes := []impl.ENode{a, nought, sum, sum, eOp(impl.OpNeg, 3), eOp(impl.OpNeg, 2), a}
	expectTaken(t, "alike nodes", fold, proofOf(nodes), aloneEach(7)...)
	expectTaken(t, "alike nodes linked", fold, proofOf(nodes, link(2, 3, -1), link(5, 4, -1), link(6, 0, -1)), 0, 1, 2, 2, 4, 4, 0)
	expectTaken(t, "one of two", fold, proofOf(nodes, link(3, 0, 0)), 0, 1, 2, 0, 4, 5, 6)
	expectFaulty(t, "alike with another kid", fold, proofOf(nodes, link(3, 6, 0)), notRight, 0)
	expectTaken(t, "alike with its kid by then", fold, proofOf(nodes, link(6, 0, -1), link(3, 6, 0)), 0, 1, 2, 0, 4, 5, 0)
	for name, g := range goodGraphs() {
		expectTaken(t, name, fold, proofOf(g.Nodes), aloneEach(len(g.Nodes))...)
	}
	most := oneChain(impl.MaxENodes)
	expectTaken(t, "MaxENodes", fold, proofOf(most.Nodes, link(5, 5, -1), link(0, 0, -1), link(119, 119, -1)), most.Parts...)
	expectFaulty(t, "MaxENodes", fold, proofOf(most.Nodes, link(119, 119, -1), link(120, 119, -1)), noNodes, 1)
}

func TestMaxLinksAndOneMore(t *testing.T) {
	fold := rulesOf(t, "(a+0)=>a")
	nodes := []impl.ENode{eVar(0), eVar(0), eVar(1)}
	for _, l := range []impl.Link{link(0, 1, -1), link(2, 2, -1), link(1, 0, -1)} {
		links := slices.Repeat([]impl.Link{l}, impl.MaxLinks+1)
		want := []int{0, 0, 2}
		if l.A == l.B {
			want = []int{0, 1, 2}
		}
		expectTaken(t, "MaxLinks", fold, proofOf(nodes, links[1:]...), want...)
		expectShown(t, "MaxLinks", fold, proofOf(nodes, links[1:]...), 0, 1, l.A != l.B)
		expectFaulty(t, "one more", fold, proofOf(nodes, links...), notAsSaid, 0)
		expectShown(t, "one more", fold, proofOf(nodes, links...), 0, 0, false)
		links[impl.MaxLinks] = link(0, 2, -1)
		expectFaulty(t, "MaxLinks, the last one wrong", fold, proofOf(nodes, links[1:]...), notRight, impl.MaxLinks-1)
		expectFaulty(t, "one more, the last one wrong", fold, proofOf(nodes, links...), notAsSaid, 0)
		links[0] = link(0, 9, 9)
		expectFaulty(t, "one more, the first one wrong", fold, proofOf(nodes, links...), notAsSaid, 0)
		expectFaulty(t, "many more", fold, proofOf(nodes, slices.Repeat(links, 5)...), notAsSaid, 0)
		expectFaulty(t, "one more, without nodes", fold, proofOf(nil, links...), notAsSaid, 0)
	}
}

func TestMaxRulesOfProofs(t *testing.T) {
	nodes, term := negatedSums(), ringTerm(t, "(a+0)")
	for _, s := range []string{"(a+0)=>a", "(a-a)=>0"} {
		rules := slices.Repeat(rulesOf(t, s), impl.MaxRules+1)
		right := checkedByTheWords(t, rules[0]) == 0
		for k := range impl.MaxRules {
			if p := proofOf(nodes, link(2, 0, k)); right {
				expectTaken(t, "MaxRules", rules[:impl.MaxRules], p, 0, 1, 0, 3, 4)
			} else {
				expectFaulty(t, "MaxRules", rules[:impl.MaxRules], p, noReason, 0)
			}
		}
		if p, ok := impl.ProofFor(term, rules[:impl.MaxRules], 2, 9); !ok || len(p.Nodes) != 3 || (len(p.Links) == 1) != right {
			t.Errorf("ProofFor of MaxRules rules: got %v, %v", p, ok)
		}
		for _, more := range [][]impl.Rule{rules, slices.Repeat(rules, 10)} {
			expectUnchecked(t, "one rule more", more, proofOf(nodes, link(2, 0, 0)))
			expectUnchecked(t, "one rule more", more, proofOf(nodes))
			expectUnchecked(t, "one rule more", more, impl.Proof{})
			expectUnchecked(t, "one rule more, nodes not as said", more, proofOf([]impl.ENode{{}}))
			expectNoProof(t, "one rule more", term, more, 2, 9)
		}
	}
}

func TestProofsOfRulesThatAreNotGood(t *testing.T) {
	nodes, term := negatedSums(), ringTerm(t, "(a+0)")
	right := ruleOf(t, "(a+0)=>a")
	for why, r := range badRules() {
		for _, rules := range [][]impl.Rule{{r}, {right, r}, {r, right}, append(slices.Repeat([]impl.Rule{right}, impl.MaxRules-1), r)} {
			expectUnchecked(t, why, rules, proofOf(nodes, link(2, 0, 0)))
			expectUnchecked(t, why, rules, proofOf(nodes))
			expectUnchecked(t, why, rules, proofOf(nodes, link(9, 9, 9)))
			expectUnchecked(t, why, rules, proofOf([]impl.ENode{{}}, link(0, 0, 0)))
			expectUnchecked(t, why, rules, impl.Proof{Links: make([]impl.Link, impl.MaxLinks+1)})
			expectNoProof(t, why, term, rules, 2, 9)
		}
	}
}

// A rule that is not right may stand there, but nothing is linked by it.
func TestLinksByRulesThatAreNotRight(t *testing.T) {
	nodes := append(negatedSums(), eOp(impl.OpSub, 0, 0))
	wrong := rulesOf(t, "a=>a", "(a+0)=>b", "(a-a)=>0", "(a+b)=>a", "(a+0)=>a", "(a+0)=>0")
	for k, l := range []impl.Link{link(0, 0, 0), link(2, 4, 1), link(5, 1, 2), link(2, 0, 3)} {
		if checkedByTheWords(t, wrong[k]) == 0 {
			t.Fatal("the rule is right:", writtenRule(wrong[k]))
		}
		expectFaulty(t, writtenRule(wrong[k]), wrong, proofOf(nodes, l), noReason, 0)
		expectFaulty(t, writtenRule(wrong[k]), wrong, proofOf(nodes, link(2, 0, 4), l), noReason, 1)
	}
	expectTaken(t, "the one that is right", wrong, proofOf(nodes, link(2, 0, 4)), 0, 1, 0, 3, 4, 5)
	expectFaulty(t, "behind the right one", wrong, proofOf(nodes, link(2, 0, 5)), noReason, 0)
	expectTaken(t, "no rule is right", wrong[:3], proofOf(nodes, link(1, 1, -1)), aloneEach(6)...)
}

var farNumbers = []int{-1, -2, -3, 5, 6, 7, impl.MaxENodes, impl.MaxENodes + 1, 1 << 32, math.MinInt, math.MaxInt}

func TestNumbersOfLinkedNodes(t *testing.T) {
	fold, nodes := rulesOf(t, "(a+0)=>a"), negatedSums()
	for _, k := range farNumbers {
		for _, rule := range []int{-1, 0, -2, 1} {
			expectFaulty(t, "A", fold, proofOf(nodes, link(k, 0, rule)), noNodes, 0)
			expectFaulty(t, "B", fold, proofOf(nodes, link(2, k, rule)), noNodes, 0)
			expectFaulty(t, "both", fold, proofOf(nodes, link(k, k, rule)), noNodes, 0)
			expectFaulty(t, "behind a right one", fold, proofOf(nodes, link(2, 0, 0), link(4, k, rule)), noNodes, 1)
		}
	}
	expectTaken(t, "the first and the last", fold, proofOf(nodes, link(0, 0, -1), link(4, 4, -1)), aloneEach(5)...)
}

func TestNumbersOfLinkedRules(t *testing.T) {
	nodes := negatedSums()
	rules := rulesOf(t, "(a-0)=>a", "(a-a)=>0", "(a+0)=>a")
	for _, k := range []int{-2, -3, 1, 3, 4, impl.MaxRules - 1, impl.MaxRules, impl.MaxRules + 1, 1 << 32, math.MinInt, math.MaxInt} {
		expectFaulty(t, "a number of no right rule", rules, proofOf(nodes, link(2, 0, k)), noReason, 0)
		expectFaulty(t, "a number of no right rule, nodes that are alike", rules, proofOf(nodes, link(0, 0, k)), noReason, 0)
		expectFaulty(t, "behind a right one", rules, proofOf(nodes, link(2, 0, 2), link(3, 4, -1), link(2, 0, k)), noReason, 2)
	}
	expectFaulty(t, "the first rule", rules, proofOf(nodes, link(2, 0, 0)), notRight, 0)
	expectTaken(t, "the last rule", rules, proofOf(nodes, link(2, 0, 2)), 0, 1, 0, 3, 4)
	for _, none := range [][]impl.Rule{nil, {}} {
		expectFaulty(t, "no rules", none, proofOf(nodes, link(2, 0, 0)), noReason, 0)
		expectTaken(t, "no rules", none, proofOf(nodes, link(3, 3, -1)), aloneEach(5)...)
	}
}

func TestLinksOfNodesThatAreAlike(t *testing.T) {
	kids := []impl.ENode{eVar(0), eVar(0), eVar(1), eVar(2)}
	for _, c := range opsWithParts {
		of := func(kids ...int) impl.ENode { return eOp(c.op, kids[:c.arity]...) }
		nodes := append(slices.Clone(kids), of(0, 2, 3), of(1, 2, 3), of(0, 2, 3), of(2, 0, 3))
		expectTaken(t, "the same kids", nil, proofOf(nodes, link(4, 6, -1)), 0, 1, 2, 3, 4, 5, 4, 7)
		expectTaken(t, "the same kids, turned", nil, proofOf(nodes, link(6, 4, -1)), 0, 1, 2, 3, 4, 5, 4, 7)
		expectTaken(t, "kids linked ahead", nil, proofOf(nodes, link(0, 1, -1), link(5, 6, -1)), 0, 0, 2, 3, 4, 5, 5, 7)
		expectFaulty(t, "kids not linked", nil, proofOf(nodes, link(5, 6, -1)), notRight, 0)
		expectFaulty(t, "kids linked behind", nil, proofOf(nodes, link(5, 6, -1), link(1, 0, -1)), notRight, 0)
		expectFaulty(t, "kids linked behind, and again", nil, proofOf(nodes, link(1, 1, -1), link(5, 6, -1), link(1, 0, -1), link(5, 6, -1)), notRight, 1)
		expectFaulty(t, "kids in another order", nil, proofOf(nodes, link(0, 1, -1), link(4, 7, -1)), notRight, 1)
		for _, other := range opsWithParts {
			n := impl.ENode{Op: other.op, Kids: []int{0, 2, 3}[:other.arity]}
			if p := proofOf(append(slices.Clone(nodes), n), link(4, 8, -1)); other.op == c.op {
				expectTaken(t, "the same op", nil, p, 0, 1, 2, 3, 4, 5, 6, 7, 4)
			} else {
				expectFaulty(t, "another op", nil, p, notRight, 0)
			}
		}
	}
}

func TestLinksOfLeaves(t *testing.T) {
	nodes := []impl.ENode{eVar(0), eVar(1), eVar(0), eNum(0), eNum(1), eNum(0), eNum(math.MinInt64), eNum(math.MinInt64), eNum(math.MaxInt64)}
	for a := range nodes {
		for b := range nodes {
			p := proofOf(nodes, link(a, b, -1))
			if !sameENode(nodes[a], nodes[b]) {
				expectFaulty(t, "unlike leaves", nil, p, notRight, 0)
				continue
			}
			parts := aloneEach(len(nodes))
			parts[max(a, b)] = min(a, b)
			expectTaken(t, "leaves that are alike", nil, p, parts...)
		}
	}
	// Of one part by now, but not alike.
	fold := rulesOf(t, "(a+0)=>a")
	sum := []impl.ENode{eVar(0), eNum(0), eOp(impl.OpAdd, 0, 1), eVar(0)}
	expectFaulty(t, "unlike nodes of one part", fold, proofOf(sum, link(2, 0, 0), link(2, 0, -1)), notRight, 1)
	expectTaken(t, "by way of the part", fold, proofOf(sum, link(2, 0, 0), link(3, 0, -1)), 0, 1, 0, 0)
	expectFaulty(t, "alike to another node of the part", fold, proofOf(sum, link(2, 0, 0), link(3, 2, -1)), notRight, 1)
}

// What holds of the kids' kids is nothing to a link.
func TestKidsThatAreOnlyAlike(t *testing.T) {
	nodes := []impl.ENode{eVar(0), eVar(0), eOp(impl.OpNeg, 0), eOp(impl.OpNeg, 1), eOp(impl.OpNeg, 2), eOp(impl.OpNeg, 3)}
	expectFaulty(t, "no link of kids", nil, proofOf(nodes, link(4, 5, -1)), notRight, 0)
	expectFaulty(t, "the leaves linked", nil, proofOf(nodes, link(0, 1, -1), link(4, 5, -1)), notRight, 1)
	expectTaken(t, "each level linked", nil, proofOf(nodes, link(0, 1, -1), link(2, 3, -1), link(4, 5, -1)), 0, 0, 2, 2, 4, 4)
}

func TestVariablesOfRulesThatAreMetTwice(t *testing.T) {
	rules := rulesOf(t, "(a+a)=>(a*2)", "(a+0)=>a", "(a*2)=>(a+a)")
	nodes := []impl.ENode{eVar(0), eNum(0), eOp(impl.OpAdd, 0, 1), eOp(impl.OpAdd, 0, 2), eNum(2), eOp(impl.OpMul, 0, 4), eOp(impl.OpAdd, 0, 0), eOp(impl.OpMul, 2, 4)}
	expectTaken(t, "one kid twice", rules, proofOf(nodes, link(6, 5, 0)), 0, 1, 2, 3, 4, 5, 5, 7)
	expectFaulty(t, "two kids", rules, proofOf(nodes, link(3, 5, 0)), notRight, 0)
	expectTaken(t, "two kids that are one by then", rules, proofOf(nodes, link(2, 0, 1), link(3, 5, 0)), 0, 1, 0, 3, 4, 3, 6, 7)
	expectFaulty(t, "two kids that are one behind", rules, proofOf(nodes, link(3, 5, 0), link(2, 0, 1)), notRight, 0)
	expectTaken(t, "twice in the right", rules, proofOf(nodes, link(5, 6, 2)), 0, 1, 2, 3, 4, 5, 5, 7)
	expectFaulty(t, "two kids in the right", rules, proofOf(nodes, link(5, 3, 2)), notRight, 0)
	expectTaken(t, "two kids in the right, one by then", rules, proofOf(nodes, link(2, 0, 1), link(5, 3, 2)), 0, 1, 0, 3, 4, 3, 6, 7)
	// Each side matches, but not with the same bind.
	expectFaulty(t, "binds that do not agree", rules, proofOf(nodes, link(6, 7, 0)), notRight, 0)
	expectTaken(t, "binds that agree by then", rules, proofOf(nodes, link(2, 0, 1), link(6, 7, 0)), 0, 1, 0, 3, 4, 5, 6, 6)
}

func TestRulesWhoseRightIsAVariable(t *testing.T) {
	rules := rulesOf(t, "~~a=>a", "(1?a:b)=>a", "(0?a:b)=>b", "~~d=>d")
	nodes := []impl.ENode{eVar(0), eOp(impl.OpNeg, 0), eOp(impl.OpNeg, 1), eVar(1), eNum(1), eOp(impl.OpIf, 4, 0, 3), eNum(0), eOp(impl.OpIf, 6, 0, 3)}
	expectTaken(t, "twice negated", rules, proofOf(nodes, link(2, 0, 0)), 0, 1, 0, 3, 4, 5, 6, 7)
	expectTaken(t, "by another name", rules, proofOf(nodes, link(2, 0, 3)), 0, 1, 0, 3, 4, 5, 6, 7)
	expectFaulty(t, "not the variable's part", rules, proofOf(nodes, link(2, 1, 0)), notRight, 0)
	expectFaulty(t, "the part itself", rules, proofOf(nodes, link(2, 2, 0)), notRight, 0)
	expectFaulty(t, "negated once", rules, proofOf(nodes, link(1, 0, 0)), notRight, 0)
	expectTaken(t, "the second", rules, proofOf(nodes, link(5, 0, 1)), 0, 1, 2, 3, 4, 0, 6, 7)
	expectFaulty(t, "the third", rules, proofOf(nodes, link(5, 3, 1)), notRight, 0)
	expectTaken(t, "the third of the other", rules, proofOf(nodes, link(7, 3, 2)), 0, 1, 2, 3, 4, 5, 6, 3)
	expectFaulty(t, "the second of the other", rules, proofOf(nodes, link(7, 0, 2)), notRight, 0)
	expectFaulty(t, "another number ahead", rules, proofOf(nodes, link(7, 0, 1)), notRight, 0)
}

func TestRulesWithoutVariables(t *testing.T) {
	rules := rulesOf(t, "2=>(1+1)", "(1+1)=>2", "0=>~0")
	nodes := []impl.ENode{eNum(1), eNum(2), eOp(impl.OpAdd, 0, 0), eNum(0), eOp(impl.OpNeg, 3)}
	expectTaken(t, "a number", rules, proofOf(nodes, link(1, 2, 0)), 0, 1, 1, 3, 4)
	expectTaken(t, "a sum", rules, proofOf(nodes, link(2, 1, 1)), 0, 1, 1, 3, 4)
	expectFaulty(t, "another number", rules, proofOf(nodes, link(0, 2, 0)), notRight, 0)
	expectTaken(t, "all of them", rules, proofOf(nodes, link(1, 2, 0), link(2, 1, 1), link(3, 4, 2)), 0, 1, 1, 3, 3)
}

// The Left, the Right, or a part of these, is found in nodes that links ahead made one with A or B.
func TestSidesThatMatchByLinksAhead(t *testing.T) {
	rules := rulesOf(t, "(a+0)=>a", "((a+b)+c)=>(a+(b+c))", "(a*1)=>a", "(a+b)=>(b+a)")
	a, b, c := eVar(0), eVar(1), eVar(2)
	nodes := []impl.ENode{a, b, c, eNum(0), eOp(impl.OpAdd, 0, 1), eOp(impl.OpAdd, 4, 3), eOp(impl.OpAdd, 5, 2), eOp(impl.OpAdd, 1, 2), eOp(impl.OpAdd, 7, 3), eOp(impl.OpAdd, 0, 8)}
	parts := aloneEach(10)
	expectFaulty(t, "the inner sum is hidden", rules, proofOf(nodes, link(6, 9, 1)), notRight, 0)
	expectFaulty(t, "one of two is seen", rules, proofOf(nodes, link(5, 4, 0), link(6, 9, 1)), notRight, 1)
	expectFaulty(t, "the other one is seen", rules, proofOf(nodes, link(8, 7, 0), link(6, 9, 1)), notRight, 1)
	parts[5], parts[8], parts[9] = 4, 7, 6
	expectTaken(t, "both are seen", rules, proofOf(nodes, link(5, 4, 0), link(8, 7, 0), link(6, 9, 1)), parts...)
	expectTaken(t, "both, the other order", rules, proofOf(nodes, link(8, 7, 0), link(5, 4, 0), link(6, 9, 1)), parts...)
	expectFaulty(t, "both, but behind", rules, proofOf(nodes, link(6, 9, 1), link(5, 4, 0), link(8, 7, 0)), notRight, 0)
	// A itself is no sum, but one with one.
	product := []impl.ENode{a, b, eOp(impl.OpAdd, 0, 1), eNum(1), eOp(impl.OpMul, 2, 3), eOp(impl.OpAdd, 1, 0), eOp(impl.OpMul, 5, 3)}
	expectFaulty(t, "A is no sum", rules, proofOf(product, link(4, 5, 3)), notRight, 0)
	expectTaken(t, "A is one with a sum", rules, proofOf(product, link(4, 2, 2), link(4, 5, 3)), 0, 1, 2, 3, 2, 2, 6)
	expectFaulty(t, "B is no sum", rules, proofOf(product, link(2, 6, 3)), notRight, 0)
	expectTaken(t, "B is one with a sum", rules, proofOf(product, link(6, 5, 2), link(2, 6, 3)), 0, 1, 2, 3, 4, 2, 2)
}

// A class may hold itself by links ahead, and a pattern then goes round.
func TestPartsThatHoldThemselvesByLinks(t *testing.T) {
	rules := rulesOf(t, "(a+0)=>a", "((a+b)+c)=>(a+(b+c))", "(a+b)=>(b+a)", "~~a=>a")
	nodes := []impl.ENode{eVar(0), eNum(0), eOp(impl.OpAdd, 0, 1), eOp(impl.OpAdd, 1, 0), eOp(impl.OpAdd, 3, 1), eOp(impl.OpNeg, 2), eOp(impl.OpNeg, 5)}
	fold := link(2, 0, 0)
	expectFaulty(t, "not yet", rules, proofOf(nodes, link(6, 0, 3)), notRight, 0)
	expectTaken(t, "by then", rules, proofOf(nodes, fold, link(6, 0, 3)), 0, 1, 0, 3, 4, 5, 0)
	expectTaken(t, "either way", rules, proofOf(nodes, fold, link(0, 0, 0), link(0, 2, 0), link(2, 2, 0)), 0, 1, 0, 3, 4, 5, 6)
	expectFaulty(t, "a sum that is not there", rules, proofOf(nodes, fold, link(0, 0, 1)), notRight, 1)
	expectTaken(t, "turned", rules, proofOf(nodes, fold, link(0, 3, 2)), 0, 1, 0, 0, 4, 5, 6)
	expectTaken(t, "both, and a level more", rules, proofOf(nodes, fold, link(0, 3, 2), link(4, 2, -1)), 0, 1, 0, 0, 0, 5, 6)
	expectTaken(t, "round and round", rules, proofOf(nodes, fold, link(0, 3, 2), link(0, 0, 1), link(3, 2, 1), link(4, 0, 0), link(4, 4, 0)), 0, 1, 0, 0, 0, 5, 6)
}

// Such a link joins nothing, but must be right as any other one.
func TestLinksOfPartsThatAreOneAlready(t *testing.T) {
	rules, nodes := rulesOf(t, "(a+0)=>a", "(a*1)=>a"), negatedSums()
	first := link(2, 0, 0)
	for _, l := range []impl.Link{link(2, 0, 0), link(0, 2, 0), link(0, 0, 0), link(2, 2, 0), link(0, 0, -1), link(2, 2, -1)} {
		expectTaken(t, "right", rules, proofOf(nodes, first, l), 0, 1, 0, 3, 4)
		expectTaken(t, "right, again", rules, proofOf(nodes, first, l, l, link(3, 4, -1), l), 0, 1, 0, 3, 3)
	}
	for _, l := range []impl.Link{link(2, 0, -1), link(0, 2, -1), link(2, 0, 1), link(0, 0, 1)} {
		expectFaulty(t, "not right", rules, proofOf(nodes, first, l), notRight, 1)
		expectFaulty(t, "not right, again", rules, proofOf(nodes, first, first, l), notRight, 2)
	}
	expectFaulty(t, "no such rule", rules, proofOf(nodes, first, link(2, 0, 2)), noReason, 1)
	expectFaulty(t, "a node with itself, by a rule", rules, proofOf(nodes, link(0, 0, 0)), notRight, 0)
}

func TestTheFirstFaultIsTold(t *testing.T) {
	rules, nodes := rulesOf(t, "(a+0)=>a", "(a-a)=>0"), negatedSums()
	right, far, none, wrong := link(2, 0, 0), link(5, 0, 0), link(2, 0, 1), link(3, 0, 0)
	codes := map[impl.Link]int{far: noNodes, none: noReason, wrong: notRight}
	for first, code := range codes {
		for second := range codes {
			for third := range codes {
				for ahead := range 4 {
					links := append(slices.Repeat([]impl.Link{right}, ahead), first, second, right, third)
					expectFaulty(t, "several faults", rules, proofOf(nodes, links...), code, ahead)
				}
			}
		}
	}
	// What would fit two codes is told by the first one.
	expectFaulty(t, "no node and no rule", rules, proofOf(nodes, link(-1, 0, 5)), noNodes, 0)
	expectFaulty(t, "no node and a wrong rule", rules, proofOf(nodes, link(0, 5, 1)), noNodes, 0)
	expectFaulty(t, "no node, by kids", rules, proofOf(nodes, link(5, 5, -1)), noNodes, 0)
	expectFaulty(t, "no rule, and not the same", rules, proofOf(nodes, link(0, 1, 2)), noReason, 0)
	expectFaulty(t, "no rule, but alike", rules, proofOf(nodes, link(0, 0, -2)), noReason, 0)
	long := proofOf([]impl.ENode{{}}, slices.Repeat([]impl.Link{far}, impl.MaxLinks+1)...)
	expectFaulty(t, "all at once", rules, long, notAsSaid, 0)
	expectUnchecked(t, "all at once, and rules that are not good", []impl.Rule{{}}, long)
}

func TestShowsSame(t *testing.T) {
	rules, nodes := rulesOf(t, "(a+0)=>a", "(a-a)=>0"), negatedSums()
	p := proofOf(nodes, link(2, 0, 0), link(3, 4, -1))
	parts := []int{0, 1, 0, 3, 3}
	for a := range nodes {
		for b := range nodes {
			expectShown(t, "taken", rules, p, a, b, parts[a] == parts[b])
			expectShown(t, "no links", rules, proofOf(nodes), a, b, a == b)
			for _, l := range []impl.Link{link(9, 0, 0), link(2, 0, 7), link(2, 0, 1), link(0, 1, -1), link(3, 0, 0)} {
				expectShown(t, "not taken", rules, proofOf(nodes, l), a, b, false)
				expectShown(t, "not taken to its end", rules, proofOf(nodes, link(2, 0, 0), link(3, 4, -1), l), a, b, false)
			}
		}
		for _, k := range farNumbers {
			expectUnshown(t, "no number of a node", rules, p, k, a)
			expectUnshown(t, "no number of a node", rules, p, a, k)
			expectUnshown(t, "no number of a node", rules, p, k, k)
			expectUnshown(t, "no number of a node, not taken", rules, proofOf(nodes, link(0, 1, -1)), a, k)
		}
	}
}

func TestDropLink(t *testing.T) {
	nodes := negatedSums()
	links := []impl.Link{link(2, 0, 0), link(3, 4, -1), link(-5, 99, 12), link(0, 0, -1)}
	for count := range len(links) + 1 {
		p := proofOf(nodes, links[:count]...)
		for k := range count {
			expectDropped(t, "each one", p, k, proofOf(nodes, slices.Delete(slices.Clone(p.Links), k, k+1)...))
		}
		for _, k := range []int{-1, -2, count, count + 1, impl.MaxLinks, math.MinInt, math.MaxInt} {
			expectNotDropped(t, "no link", p, k)
		}
	}
	expectDropped(t, "the only one", proofOf(nodes, links[0]), 0, proofOf(nodes))
	expectDropped(t, "without nodes", proofOf(nil, links[:2]...), 1, proofOf(nil, links[0]))
	again := proofOf(nodes, links[0], links[0], links[1], links[0])
	expectDropped(t, "of those that are the same", again, 0, proofOf(nodes, links[0], links[1], links[0]))
	expectDropped(t, "of those that are the same", again, 3, proofOf(nodes, links[0], links[0], links[1]))
}

func TestDropLinkAtMaxLinks(t *testing.T) {
	var links []impl.Link
	for k := range impl.MaxLinks + 1 {
		links = append(links, link(k, 2*k, k%3))
	}
	nodes := oneChain(impl.MaxENodes).Nodes
	for k := range impl.MaxLinks {
		most := proofOf(nodes, links[:impl.MaxLinks]...)
		expectDropped(t, "MaxLinks", most, k, proofOf(nodes, slices.Concat(links[:k], links[k+1:impl.MaxLinks])...))
	}
	expectNotDropped(t, "MaxLinks", proofOf(nodes, links[:impl.MaxLinks]...), impl.MaxLinks)
	for _, k := range []int{-1, 0, 1, 150, impl.MaxLinks - 1, impl.MaxLinks, impl.MaxLinks + 1} {
		expectNotDropped(t, "one link more", proofOf(nodes, links...), k)
		expectNotDropped(t, "many more", proofOf(nodes, slices.Repeat(links, 4)...), k)
	}
}

// What the nodes are, and whether links are right, is not asked where one is dropped.
func TestDropLinkOfAnyNodes(t *testing.T) {
	for name, nodes := range badProofNodes() {
		expectDropped(t, name, proofOf(nodes, link(0, 1, -1), link(7, 7, 7)), 1, proofOf(nodes, link(0, 1, -1)))
		expectDropped(t, name, proofOf(nodes, link(0, 1, -1)), 0, proofOf(nodes))
		expectNotDropped(t, name, proofOf(nodes), 0)
	}
}

func TestProofFor(t *testing.T) {
	fold := rulesOf(t, "(a+0)=>a")
	a, nought := eVar(0), eNum(0)
	nodes := []impl.ENode{a, nought, eOp(impl.OpAdd, 0, 1)}
	expectProof(t, "one rule", ringTerm(t, "(a+0)"), fold, 2, 10, proofOf(nodes, link(2, 0, 0)))
	expectProof(t, "no rule", ringTerm(t, "(a+0)"), nil, 2, 10, proofOf(nodes))
	expectProof(t, "no rule that matches", ringTerm(t, "(a+0)"), rulesOf(t, "(a-0)=>a"), 2, 10, proofOf(nodes))
	expectProof(t, "a leaf", ringTerm(t, "a"), fold, 2, 10, proofOf([]impl.ENode{a}))
	// What comes behind is the B of its link.
	turn := rulesOf(t, "(a+b)=>(b+a)")
	expectProof(t, "a node behind", ringTerm(t, "(a+0)"), turn, 5, 10, proofOf(append(nodes, eOp(impl.OpAdd, 1, 0)), link(2, 3, 0)))
	both := rulesOf(t, "(a+b)=>(b+a)", "(a+0)=>a")
	expectProof(t, "both", ringTerm(t, "(a+0)"), both, 5, 10, proofOf(append(nodes, eOp(impl.OpAdd, 1, 0)), link(2, 3, 0), link(2, 0, 1)))
}

// One joining makes nodes' kids the same, and that others'.
func TestProofForWhereOneJoiningBringsOthers(t *testing.T) {
	fold := rulesOf(t, "(a+0)=>a")
	a, nought, sum := eVar(0), eNum(0), eOp(impl.OpAdd, 0, 1)
	neg := func(k int) impl.ENode { return eOp(impl.OpNeg, k) }
	expectProof(t, "kids", ringTerm(t, "(~(a+0)-~a)"), fold, 3, 9,
		proofOf([]impl.ENode{a, nought, sum, neg(2), neg(0), eOp(impl.OpSub, 3, 4)}, link(2, 0, 0), link(3, 4, -1)))
	expectProof(t, "kids of kids", ringTerm(t, "(~~(a+0)-~~a)"), fold, 3, 9,
		proofOf([]impl.ENode{a, nought, sum, neg(2), neg(3), neg(0), neg(5), eOp(impl.OpSub, 4, 6)}, link(2, 0, 0), link(3, 5, -1), link(4, 6, -1)))
	// The rule matches each sum, but the first joining makes them all one.
	expectProof(t, "sums that fold", ringTerm(t, "(((a+0)+0)+0)"), fold, 3, 9,
		proofOf([]impl.ENode{a, nought, sum, eOp(impl.OpAdd, 2, 1), eOp(impl.OpAdd, 3, 1)}, link(2, 0, 0), link(2, 3, -1), link(2, 4, -1)))
	// By the second joining of one going through the first node is alike again.
	expectProof(t, "three of one kind", ringTerm(t, "((~(a+0)-~a)-~((a+0)+0))"), fold, 3, 12,
		proofOf([]impl.ENode{a, nought, sum, neg(2), neg(0), eOp(impl.OpSub, 3, 4), eOp(impl.OpAdd, 2, 1), neg(6), eOp(impl.OpSub, 5, 7)},
			link(2, 0, 0), link(3, 4, -1), link(2, 6, -1), link(3, 7, -1)))
}

// What is joined far behind makes nodes ahead alike: they are met when all nodes
// are gone through again, and not ahead of those that are left.
func TestProofForGoesThroughAllNodesAgain(t *testing.T) {
	term := ringTerm(t, "((~(a+b)-~~((~a-b)+0))-(~((~a-b)+0)-0))")
	neg, sub := func(k int) impl.ENode { return eOp(impl.OpNeg, k) }, func(k, other int) impl.ENode { return eOp(impl.OpSub, k, other) }
	nodes := []impl.ENode{eVar(0), eVar(1), eOp(impl.OpAdd, 0, 1), neg(2), neg(0), sub(4, 1), eNum(0), eOp(impl.OpAdd, 5, 6), neg(7), neg(8), sub(3, 9), sub(8, 6), sub(10, 11),
		neg(5), sub(2, 6), neg(14)}
	rules := rulesOf(t, "(a+b)=>~(~a-b)", "(a+0)=>a")
	want := proofOf(nodes, link(2, 13, 0), link(7, 15, 0), link(7, 5, 1), link(8, 13, -1), link(11, 14, -1), link(3, 9, -1))
	for rounds := 1; rounds <= impl.MaxRounds; rounds++ {
		expectProof(t, "all again", term, rules, rounds, 16, want)
	}
	// Here what is joined the second time makes nodes ahead of that alike.
	term = ringTerm(t, "(((~(a+b)*b)-(((~a-b)+0)*b))-~~((~a-b)+0))")
	mul := func(k int) impl.ENode { return eOp(impl.OpMul, k, 1) }
	nodes = []impl.ENode{eVar(0), eVar(1), eOp(impl.OpAdd, 0, 1), neg(2), mul(3), neg(0), sub(5, 1), eNum(0), eOp(impl.OpAdd, 6, 7), mul(8), sub(4, 9), neg(8), neg(11), sub(10, 12),
		neg(6), sub(2, 7), neg(15)}
	rules = rulesOf(t, "(a+b)=>~(~a-b)", "~~a=>a", "(a+0)=>a")
	expectProof(t, "and a third time", term, rules, 1, 17,
		proofOf(nodes, link(2, 14, 0), link(8, 16, 0), link(12, 8, 1), link(8, 6, 2), link(11, 14, -1), link(3, 12, -1), link(4, 9, -1)))
}

// Nodes have the kids with which they came, whatever is joined behind that.
func TestProofForHasTheKidsAsTheyCame(t *testing.T) {
	rules := rulesOf(t, "(a+0)=>a", "(a*b)=>(b*a)")
	nodes := []impl.ENode{eVar(0), eNum(0), eOp(impl.OpAdd, 0, 1), eVar(1), eOp(impl.OpMul, 2, 3)}
	// 2 is of class 0 where the turned product comes.
	expectProof(t, "joined ahead", ringTerm(t, "((a+0)*b)"), rules, 5, 9,
		proofOf(append(slices.Clone(nodes), eOp(impl.OpMul, 3, 0)), link(2, 0, 0), link(4, 5, 1)))
	turned := []impl.Rule{rules[1], rules[0]}
	expectProof(t, "joined behind", ringTerm(t, "((a+0)*b)"), turned, 5, 9,
		proofOf(append(slices.Clone(nodes), eOp(impl.OpMul, 3, 2)), link(4, 5, 0), link(2, 0, 1)))
	// A class that holds itself.
	more := rulesOf(t, "(a+b)=>((a+b)+0)")
	expectProof(t, "in itself", ringTerm(t, "(a+b)"), more, 3, 9,
		proofOf([]impl.ENode{eVar(0), eVar(1), eOp(impl.OpAdd, 0, 1), eNum(0), eOp(impl.OpAdd, 2, 3)}, link(2, 4, 0)))
}

// The number is that in rules, not that among those that are right.
func TestProofForTellsTheNumberInRules(t *testing.T) {
	term := ringTerm(t, "((a+0)*1)")
	nodes := []impl.ENode{eVar(0), eNum(0), eOp(impl.OpAdd, 0, 1), eNum(1), eOp(impl.OpMul, 2, 3)}
	wrong := rulesOf(t, "(a-a)=>0", "(a+0)=>0", "a=>(a+0)", "(a*b)=>b")
	fold, times := ruleOf(t, "(a+0)=>a"), ruleOf(t, "(a*1)=>a")
	for ahead := range 5 {
		for between := range 5 {
			rules := slices.Concat(wrong[:ahead], []impl.Rule{fold}, wrong[:between], []impl.Rule{times}, wrong)
			expectProof(t, "wrong ones between", term, rules, 3, 9, proofOf(nodes, link(2, 0, ahead), link(4, 0, ahead+between+1)))
		}
	}
	// Of two that say the same the first one has said it.
	expectProof(t, "the same ones", term, []impl.Rule{wrong[0], times, times, fold, fold}, 3, 9, proofOf(nodes, link(4, 2, 1), link(2, 0, 3)))
	expectProof(t, "wrong ones alone", term, wrong, 3, 9, proofOf(nodes))
	last := append(slices.Repeat(wrong, 5)[:impl.MaxRules-1], fold)
	expectProof(t, "the last of MaxRules", term, last, 3, 9, proofOf(nodes, link(2, 0, impl.MaxRules-1)))
}

func TestProofForAtEachCode(t *testing.T) {
	term, rules := ringTerm(t, "(a+1)"), rulesOf(t, "(a+1)=>((a+0)+1)")
	for rounds := range impl.MaxRounds + 1 {
		for nodes := range 30 {
			fit := 0
			for fit < rounds && len(sumsOfNoughts(fit+1).Nodes) <= nodes {
				fit++
			}
			g := sumsOfNoughts(fit)
			var links []impl.Link
			for k, least := range g.Parts {
				if k != least {
					links = append(links, link(2, k, 0))
				}
			}
			expectProof(t, "rounds and nodes", term, rules, rounds, nodes, proofOf(g.Nodes, links...))
		}
	}
	still := proofOf([]impl.ENode{eVar(0), eNum(0), eOp(impl.OpAdd, 0, 1)}, link(2, 0, 0))
	for rounds := 1; rounds <= impl.MaxRounds; rounds++ {
		expectProof(t, "till it is still", ringTerm(t, "(a+0)"), rulesOf(t, "(a+0)=>a"), rounds, 3, still)
	}
}

// Of a round that ends early there is what was done ahead of that.
func TestProofForRoundsThatEndEarly(t *testing.T) {
	term, rules := ringTerm(t, "((a+b)*((b+c)*(a+c)))"), rulesOf(t, "(a+b)=>(b+a)", "(a*b)=>(b*a)")
	nodes := []impl.ENode{eVar(0), eVar(1), eOp(impl.OpAdd, 0, 1), eVar(2), eOp(impl.OpAdd, 1, 3), eOp(impl.OpAdd, 0, 3), eOp(impl.OpMul, 4, 5), eOp(impl.OpMul, 2, 6),
		eOp(impl.OpAdd, 1, 0), eOp(impl.OpAdd, 3, 1), eOp(impl.OpAdd, 3, 0), eOp(impl.OpMul, 5, 4), eOp(impl.OpMul, 6, 2)}
	links := []impl.Link{link(2, 8, 0), link(4, 9, 0), link(5, 10, 0), link(6, 11, 1), link(7, 12, 1)}
	for room := range impl.MaxENodes + 1 {
		fit := max(0, min(room-8, 5))
		expectProof(t, "some room", term, rules, 4, room, proofOf(nodes[:8+fit], links[:fit]...))
	}
	// The nodes that were put for a match that had no room are not there.
	for room := 4; room < 7; room++ {
		three := []impl.ENode{eVar(0), eVar(1), eOp(impl.OpMul, 0, 1)}
		expectProof(t, "a part would fit", ringTerm(t, "(a*b)"), rulesOf(t, "(a*b)=>((a+0)*(b+0))"), 2, room, proofOf(three))
	}
}

func TestProofForAtTheEdgesOfRoundsAndNodes(t *testing.T) {
	term, fold := ringTerm(t, "(a+0)"), rulesOf(t, "(a+0)=>a")
	nodes := []impl.ENode{eVar(0), eNum(0), eOp(impl.OpAdd, 0, 1)}
	for rounds := range impl.MaxRounds + 1 {
		for _, room := range []int{0, 1, 2, 3, 4, impl.MaxENodes - 1, impl.MaxENodes} {
			if rounds == 0 || room < 3 {
				expectProof(t, "no round, or less room than the term wants", term, fold, rounds, room, proofOf(nodes))
			} else {
				expectProof(t, "some rounds", term, fold, rounds, room, proofOf(nodes, link(2, 0, 0)))
			}
		}
	}
	for _, wrong := range []int{-1, -2, impl.MaxENodes + 1, impl.MaxENodes + 2, math.MinInt, math.MaxInt} {
		expectNoProof(t, "rounds", term, fold, wrong, 9)
		expectNoProof(t, "nodes", term, fold, 2, wrong)
		expectNoProof(t, "nodes, no rounds", term, nil, 0, wrong)
		expectNoProof(t, "both", term, fold, wrong, wrong)
	}
	expectNoProof(t, "one round too many", term, fold, impl.MaxRounds+1, 9)
	for name, bad := range badTerms() {
		expectNoProof(t, name, bad, fold, 2, 9)
		expectNoProof(t, name, bad, nil, 0, 0)
	}
}

func TestProofForTermsOfMaxNodes(t *testing.T) {
	chain := oneChain(impl.MaxNodes)
	expectProof(t, "a chain", negated(variable(0), impl.MaxNodes-1), nil, 3, 0, proofOf(chain.Nodes))
	expectNoProof(t, "one node more", negated(variable(0), impl.MaxNodes), nil, 3, 0)
	// Each second one is one with the first one, by the rule or by its kid.
	rules := rulesOf(t, "~~a=>a")
	var links []impl.Link
	for k := 2; k < impl.MaxNodes; k++ {
		links = append(links, link(2-k%2, k, -1))
	}
	links[0] = link(2, 0, 0)
	expectProof(t, "two parts", negated(variable(0), impl.MaxNodes-1), rules, 3, impl.MaxENodes, proofOf(chain.Nodes, links...))
}

// disguised has a term whose variables, some of them, stand in what is one with them by a rule.
func disguised(r *rand.Rand, term []impl.Node) []impl.Node {
	var out []impl.Node
	for _, n := range term {
		leaf := []impl.Node{n}
		for n.Op == impl.OpVar && r.Intn(3) == 0 {
			switch r.Intn(3) {
			case 0:
				leaf = joinedNodes(impl.OpAdd, leaf, num(0))
			case 1:
				leaf = joinedNodes(impl.OpMul, leaf, num(1))
			default:
				leaf = negated(leaf, 2)
			}
		}
		out = append(out, leaf...)
	}
	return out
}

// twins has a term several times, each time disguised in another way, so that one joining brings others.
func twins(r *rand.Rand) []impl.Node {
	of := fewLeaves(r, randomTerm(r, 2+r.Intn(5)))
	term := disguised(r, of)
	for range 1 + r.Intn(3) {
		if more := joinedNodes(impl.OpSub, term, disguised(r, of)); len(more) <= 30 {
			term = more
		}
	}
	return term
}

// folded is of parts that come to be one with nodes that are put far behind them.
func folded(t *testing.T, r *rand.Rand) []impl.Node {
	t.Helper()
	texts := []string{"~(a+b)", "(a+b)", "~~((~a-b)+0)", "(~((~a-b)+0)-0)", "((~a-b)+0)", "((a+b)+0)"}
	term := ringTerm(t, texts[r.Intn(len(texts))])
	for range 3 {
		term = joinedNodes(impl.OpSub, term, ringTerm(t, texts[r.Intn(len(texts))]))
	}
	return term
}

// anyGrowth is what ProofFor takes.
type anyGrowth struct {
	term   []impl.Node
	rules  []impl.Rule
	rounds int
	nodes  int
}

func randomGrowth(t *testing.T, r *rand.Rand) anyGrowth {
	t.Helper()
	term, rules := fewLeaves(r, randomRing(r, 1+r.Intn(15))), randomRules(t, r)
	switch r.Intn(4) {
	case 0:
		term = folded(t, r)
		rules = rulesOf(t, "(a+b)=>~(~a-b)", "(a-a)=>0", "(a+0)=>a")
	case 1, 2:
		term = twins(r)
		rules = append(rules[:min(len(rules), 2)], rulesOf(t, "(a+0)=>a", "(a-a)=>0", "(a*1)=>a", "~~a=>a")...)
		r.Shuffle(len(rules), func(k, other int) { rules[k], rules[other] = rules[other], rules[k] })
	}
	g, _, _ := impl.AddTerm(impl.EGraph{}, term)
	return anyGrowth{term, rules, r.Intn(5), max(0, len(g.Nodes)-1+r.Intn(12))}
}

func TestProofForAsTheTableTells(t *testing.T) {
	r := rand.New(rand.NewSource(110))
	codes, byKids, byRules, again := map[int]int{}, 0, 0, 0
	for range 500 {
		g := randomGrowth(t, r)
		want, code := recorded(g.term, g.rules, rightNumbers(t, g.rules), g.rounds, g.nodes)
		expectProof(t, "any rules", g.term, g.rules, g.rounds, g.nodes, proofOf(want.nodes, want.links...))
		codes[code]++
		again += max(0, want.deep-1)
		for _, l := range want.links {
			if l.Rule == -1 {
				byKids++
			} else {
				byRules++
			}
		}
	}
	if min(codes[impl.GwStill], codes[impl.GwRounds], codes[impl.GwNodes]) < 50 || byKids < 300 || byRules < 500 || again < 5 {
		t.Errorf("codes %v, %d links by kids, %d by rules, %d not at the first time: too few", codes, byKids, byRules, again)
	}
}

// changedProof has some of a proof's links left out, put elsewhere, or changed.
func changedProof(r *rand.Rand, p impl.Proof, rules int) impl.Proof {
	links := slices.Clone(p.Links)
	for range r.Intn(3) {
		if len(links) == 0 {
			break
		}
		k := r.Intn(len(links))
		switch l := &links[k]; r.Intn(6) {
		case 0:
			links = slices.Delete(links, k, k+1)
		case 1:
			links = slices.Insert(links, r.Intn(len(links)), *l)
		case 2:
			l.A, l.B = l.B, l.A
		case 3:
			l.A = r.Intn(len(p.Nodes)+2) - 1
		case 4:
			l.B = r.Intn(len(p.Nodes)+2) - 1
		default:
			l.Rule = r.Intn(rules+3) - 2
		}
	}
	return proofOf(p.Nodes, links...)
}

func TestProofsAsTheTableTells(t *testing.T) {
	r := rand.New(rand.NewSource(111))
	codes := map[int]int{}
	for range 250 {
		g := randomGrowth(t, r)
		right := rightNumbers(t, g.rules)
		made, ok := impl.ProofFor(g.term, g.rules, g.rounds, min(g.nodes, 24))
		if !ok {
			t.Fatal("no proof of", written(g.term))
		}
		for range 6 {
			p := changedProof(r, made, len(g.rules))
			parts, code, at := checkedByTable(p, g.rules, right)
			codes[code]++
			if code == taken {
				expectTaken(t, "changed", g.rules, p, parts...)
			} else {
				expectFaulty(t, "changed", g.rules, p, code, at)
			}
			for range 4 {
				a, b := r.Intn(len(p.Nodes)), r.Intn(len(p.Nodes))
				expectShown(t, "changed", g.rules, p, a, b, code == taken && parts[a] == parts[b])
			}
		}
	}
	if codes[taken] < 300 || codes[noNodes] < 15 || codes[noReason] < 15 || codes[notRight] < 100 {
		t.Errorf("codes %v: too few of some", codes)
	}
}

// Each link but those that others do without is needed.
func TestOneLinkLess(t *testing.T) {
	r := rand.New(rand.NewSource(112))
	codes := map[int]int{}
	for range 60 {
		g := randomGrowth(t, r)
		right := rightNumbers(t, g.rules)
		p, _ := impl.ProofFor(g.term, g.rules, g.rounds, min(g.nodes, 24))
		whole, _, _ := checkedByTable(p, g.rules, right)
		for k := range p.Links {
			less, ok := impl.DropLink(p, k)
			if !ok || len(less.Links) != len(p.Links)-1 {
				t.Fatalf("link %d of %v is not dropped: %v", k, p, less)
			}
			parts, code, at := checkedByTable(less, g.rules, right)
			codes[code]++
			if code != taken {
				expectFaulty(t, "one less", g.rules, less, code, at)
				continue
			}
			expectTaken(t, "one less", g.rules, less, parts...)
			if finer, _ := impl.IsFinerParts(parts, whole); !finer || slices.Equal(parts, whole) {
				t.Errorf("without link %d of %v the parts are %v, and with it %v", k, p, parts, whole)
			}
		}
	}
	if codes[taken] < 30 || codes[notRight] < 20 {
		t.Errorf("codes %v: too few of some", codes)
	}
}

// soundRules are such as link what has the same value, and some that would link what has not.
func soundRules(t *testing.T) []impl.Rule {
	t.Helper()
	return rulesOf(t, "(a+b)=>(b+a)", "(a-a)=>0", "(a+0)=>a", "~~a=>a", "(a*0)=>0", "(a-b)=>(a+~b)", "(1?a:b)=>a", "(a+b)=>a", "(0?a:b)=>b", "(a+a)=>(a*2)",
		"0=>~0", "((a==0)?b:c)=>(a?c:b)", "(a/1)=>a", "(a/a)=>1", "(a==b)=>(b==a)", "((a+b)+c)=>(a+(b+c))", "a=>~a", "(0+a)=>a", "~0=>0")
}

// anyNodes are of few leaves, so that many have the same value.
func anyNodes(r *rand.Rand, count int) []impl.ENode {
	nodes := []impl.ENode{eVar(0), eNum(0), eNum(1)}
	for k := len(nodes); k < count; k++ {
		c := opsWithParts[[]int{0, 0, 1, 1, 1, 2, 3, 5, 6, 8, 8}[r.Intn(11)]]
		n := impl.ENode{Op: c.op}
		for range c.arity {
			n.Kids = append(n.Kids, min(r.Intn(k), r.Intn(k)))
		}
		if r.Intn(8) == 0 {
			n = nodes[r.Intn(k)]
		}
		nodes = append(nodes, n)
	}
	return nodes
}

// linksToTry has all links that are right by the words but for whether their rule is.
func linksToTry(p impl.Proof, rules []impl.Rule, parts []int) []impl.Link {
	var all []impl.Link
	g, one := impl.EGraph{Parts: parts}, onenessOf(parts)
	for k, n := range p.Nodes {
		g.Nodes = append(g.Nodes, kidsByParts(n, parts))
		for ahead := range k {
			if alikeByTable(one, n, p.Nodes[ahead]) {
				all = append(all, link(k, ahead, -1), link(ahead, k, -1))
			}
		}
	}
	for number, r := range rules {
		for _, a := range classesOf(g) {
			for _, bind := range eachOnce(bindsByLists(g, r.Left, len(r.Left)-1, a)) {
				for b := range g.Nodes {
					if matchesByTheWords(g, r.Right, len(r.Right)-1, parts[b], bind) {
						all = append(all, link(a, b, number))
					}
				}
			}
		}
	}
	return all
}

// Promise 11: what a proof that is taken shows to be the same comes to the same
// at all values, whoever made it: here links are tried in any order, among them
// such of what has the same value once, and those kept that are taken.
func TestWhatAnyProofShowsComesToTheSame(t *testing.T) {
	r := rand.New(rand.NewSource(113))
	rules, joinings, refused := soundRules(t), 0, 0
	right := rightNumbers(t, rules)
	for turn := range 60 {
		p := proofOf(anyNodes(r, 10+r.Intn(20)))
		if turn%2 == 0 {
			grown, _ := impl.ProofFor(twins(r), rules, 2, 35)
			p.Nodes = grown.Nodes
		}
		values := valuesByChoice(p.Nodes, []int64{int64(r.Intn(3)), 0, 0, 0})
		parts := aloneEach(len(p.Nodes))
		for range 40 {
			l := link(r.Intn(len(p.Nodes)), r.Intn(len(p.Nodes)), r.Intn(len(rules)+1)-1)
			by := linksToTry(p, rules, parts)
			if len(by) > 0 && r.Intn(2) == 0 {
				l = by[r.Intn(len(by))]
			} else if values[l.A] != values[l.B] {
				continue
			}
			more := proofOf(p.Nodes, append(slices.Clone(p.Links), l)...)
			now, code, _, _ := impl.CheckProof(rules, more)
			if want := slices.Contains(by, l) && (l.Rule < 0 || right[l.Rule]); want && code != taken {
				t.Fatalf("%v is right behind %v, but code %d is told", l, p, code)
			}
			if code != taken {
				refused++
				continue
			}
			p, parts = more, now
		}
		expectSameValues(t, r, p, parts)
		joinings += len(parts) - len(classesOf(impl.EGraph{Nodes: p.Nodes, Parts: parts}))
	}
	if joinings < 200 || refused < 200 {
		t.Errorf("%d joinings, %d links refused: too few", joinings, refused)
	}
}

func expectSameValues(t *testing.T, r *rand.Rand, p impl.Proof, parts []int) {
	t.Helper()
	for range 12 {
		env := randomEnv(r)
		values := valuesByChoice(p.Nodes, env)
		for k, least := range parts {
			if values[k] != values[least] {
				t.Fatalf("nodes %d and %d of %v at %v: %v and %v", k, least, p, env, values[k], values[least])
			}
		}
	}
}

// Promise 11: what growing finds has one, at all sizes, and it is sound.
func TestWhatGrowingFindsHasAProof(t *testing.T) {
	r := rand.New(rand.NewSource(114))
	links, most := 0, 0
	for range 150 {
		term := fewLeaves(r, randomTerm(r, 1+r.Intn(30)))
		if r.Intn(2) == 0 {
			term = twins(r)
		}
		rules := manyRules(t, r)
		rounds, nodes := r.Intn(impl.MaxRounds+1), r.Intn(impl.MaxENodes+1)
		p, ok := impl.ProofFor(term, rules, rounds, nodes)
		if !ok {
			t.Fatal("no proof of", written(term))
		}
		expectAsGrown(t, written(term), p, term, rules, rounds, nodes)
		parts, _, _, _ := impl.CheckProof(rules, p)
		expectSameValues(t, r, p, parts)
		for range 10 {
			a, b := r.Intn(len(p.Nodes)), r.Intn(len(p.Nodes))
			expectShown(t, written(term), rules, p, a, b, parts[a] == parts[b])
		}
		links += len(p.Links)
		most = max(most, len(p.Links))
	}
	if links < 1500 || most < 60 {
		t.Errorf("%d links, %d at most: too few", links, most)
	}
}

// Links are of unlike parts, so that there are fewer than nodes: as many as may be, with one part left.
func TestAsManyLinksAsThereMayBe(t *testing.T) {
	if impl.MaxENodes-1 > impl.MaxLinks {
		t.Fatal("more joinings may come than MaxLinks tells")
	}
	// All come to be one with 0: the nodes of a round are noughts in another way.
	term, rules := ringTerm(t, "(0+0)"), rulesOf(t, "(0+0)=>0", "0=>~0", "0=>(0-0)", "0=>(0*0)", "0=>(0<<0)", "0=>((0+0)*1)", "1=>(1+0)")
	p, ok := impl.ProofFor(term, rules, impl.MaxRounds, impl.MaxENodes)
	if !ok || len(p.Links) != len(p.Nodes)-2 {
		t.Errorf("%d links of %d nodes, %v: want one less than there are noughts", len(p.Links), len(p.Nodes), ok)
	}
	expectAsGrown(t, "noughts", p, term, rules, impl.MaxRounds, impl.MaxENodes)
	many := ringTerm(t, "(((a*b)+(c*b))-0)")
	full, ok := impl.ProofFor(many, impl.ShippedRules(), impl.MaxRounds, impl.MaxENodes)
	if !ok || len(full.Nodes) != impl.MaxENodes || len(full.Links) < 60 {
		t.Errorf("want MaxENodes nodes and many links, not %d and %d, %v", len(full.Nodes), len(full.Links), ok)
	}
	expectAsGrown(t, "many nodes", full, many, impl.ShippedRules(), impl.MaxRounds, impl.MaxENodes)
}

// noughtsAllRound has so many noughts, each a part of its own, one more that is
// no kid, and as many nodes of an op as there is room for, each made one with a
// nought by the rule of the number.
func noughtsAllRound(count int, op int, rule int) impl.Proof {
	var p impl.Proof
	for range count + 1 {
		p.Nodes = append(p.Nodes, eNum(0))
	}
	arity, _ := impl.ArityOf(op)
	for k := 0; len(p.Nodes) < impl.MaxENodes; k++ {
		n := impl.ENode{Op: op}
		for _, kid := range []int{k % count, k / count % count}[:arity] {
			n.Kids = append(n.Kids, kid)
		}
		p.Links = append(p.Links, link(len(p.Nodes), (k/count+k)%count, rule))
		p.Nodes = append(p.Nodes, n)
	}
	return p
}

// twoTangles has seven noughts, and seven more, each negated and made one with
// each of its seven: of each part there is a way to each of its own seven.
func twoTangles() impl.Proof {
	var p impl.Proof
	for range 14 {
		p.Nodes = append(p.Nodes, eNum(0))
	}
	for from := range 14 {
		for to := range 7 {
			p.Links = append(p.Links, link(len(p.Nodes), from/7*7+to, 0))
			p.Nodes = append(p.Nodes, eOp(impl.OpNeg, from))
		}
	}
	return p
}

func expectInTime(t *testing.T, work func()) {
	t.Helper()
	done := make(chan struct{})
	go func() {
		defer close(done)
		work()
	}()
	select {
	case <-done:
	case <-time.After(time.Minute):
		t.Fatal("the answers take too long")
	}
}

// In a proof alike nodes are of unlike parts, so that a pattern may be gone
// through in more ways than can be: what takes too long is given up.
func TestManyWaysThroughAProofTakeNoLongTime(t *testing.T) {
	rules := rulesOf(t, "~0=>0", "(0+0)=>0", "~~~~~~a=>a", "~~~~~~a=>~~~~~~a", "(((a+b)+c)+d)=>(a+(b+(c+d)))", "((a+b)+(c+d))=>((d+b)+(c+a))", "~~~(a+b)=>~~(~a-b)")
	expectInTime(t, func() {
		for _, c := range []struct{ count, op, rule int }{{10, impl.OpNeg, 0}, {5, impl.OpAdd, 1}, {3, impl.OpAdd, 1}, {10, impl.OpAdd, 1}} {
			p := noughtsAllRound(c.count, c.op, c.rule)
			expectShown(t, "noughts", rules, p, 0, 1, false)
			last := len(p.Links)
			for rule := 2; rule < len(rules); rule++ {
				expectFaulty(t, "a nought alone", rules, proofOf(p.Nodes, append(p.Links, link(0, c.count, rule))...), notRight, last)
				expectFaulty(t, "a nought alone", rules, proofOf(p.Nodes, append(p.Links, link(c.count, 0, rule))...), notRight, last)
				expectAllAgree(t, rules, p, rule)
			}
		}
		p := twoTangles()
		last := len(p.Links)
		expectFaulty(t, "two tangles", rules, proofOf(p.Nodes, append(p.Links, link(0, 7, 2))...), notRight, last)
		expectFaulty(t, "two tangles", rules, proofOf(p.Nodes, append(p.Links, link(0, 7, 3))...), notRight, last)
		expectFaulty(t, "two tangles", rules, proofOf(p.Nodes, append(p.Links, link(0, 6, 3), link(3, 8, 3))...), notRight, last+1)
	})
}

// expectAllAgree links by the rule as often as may be, where it may be.
func expectAllAgree(t *testing.T, rules []impl.Rule, p impl.Proof, rule int) {
	for a := range 3 {
		for b := range 3 {
			more := append(slices.Clone(p.Links), link(a, b, rule))
			_, code, at, ok := impl.CheckProof(rules, proofOf(p.Nodes, more...))
			if !ok || code == taken && at != 0 || code != taken && (code != notRight || at != len(p.Links)) {
				t.Errorf("link of %d and %d by %s: code %d at %d, %v", a, b, writtenRule(rules[rule]), code, at, ok)
			}
			if code == taken {
				for len(more) < impl.MaxLinks {
					more = append(more, link(a, b, rule))
				}
				if _, code, _, _ := impl.CheckProof(rules, proofOf(p.Nodes, more...)); code != taken {
					t.Errorf("links of %d and %d by %s: code %d where one link is taken", a, b, writtenRule(rules[rule]), code)
				}
				return
			}
		}
	}
}

// proofWithTail hands a proof over with more behind each of its lists.
func proofWithTail(p impl.Proof) impl.Proof {
	links := append(slices.Clone(p.Links), link(0, 0, -1), link(71, 72, 73), link(-1, -1, -1))
	return impl.Proof{Nodes: graphWithTail(impl.EGraph{Nodes: p.Nodes}).Nodes, Links: links[:len(p.Links)]}
}

func expectProofTail(t *testing.T, what string, p, was impl.Proof) {
	t.Helper()
	expectTail(t, what, impl.EGraph{Nodes: p.Nodes, Parts: withNumbersBehind(nil)}, impl.EGraph{Nodes: was.Nodes})
	want := proofWithTail(was).Links
	if whole := p.Links[:len(p.Links)+3]; !slices.Equal(whole, want[:len(want)+3]) {
		t.Fatalf("%s: the links are %v, were %v", what, whole, was.Links)
	}
}

func spoilProof(p impl.Proof) {
	spoilGraph(impl.EGraph{Nodes: p.Nodes})
	links := p.Links[:cap(p.Links)]
	for k := range links {
		links[k] = link(-99, -99, -99)
	}
}

func proofsOfAllKinds() map[string]impl.Proof {
	nodes := negatedSums()
	all := map[string]impl.Proof{
		"zero":          {},
		"no links":      proofOf(nodes),
		"taken":         proofOf(nodes, link(2, 0, 0), link(3, 4, -1), link(0, 2, 0)),
		"no nodes":      proofOf(nodes, link(2, 0, 0), link(3, 5, -1)),
		"no reason":     proofOf(nodes, link(2, 0, 0), link(3, 4, 9)),
		"not right":     proofOf(nodes, link(3, 4, -1), link(2, 0, 0)),
		"MaxLinks":      proofOf(nodes, slices.Repeat([]impl.Link{link(2, 0, 0)}, impl.MaxLinks)...),
		"one link more": proofOf(nodes, slices.Repeat([]impl.Link{link(2, 0, 0)}, impl.MaxLinks+1)...),
		"noughts":       noughtsAllRound(6, impl.OpAdd, 1),
	}
	for name, bad := range badProofNodes() {
		all["bad: "+name] = proofOf(bad, link(0, 1, -1), link(2, 0, 0))
	}
	return all
}

func TestProofsChangeNothingThatIsHandedIn(t *testing.T) {
	lists := [][]impl.Rule{nil, rulesOf(t, "(a+0)=>a", "(0+0)=>0"), rulesOf(t, "(a-a)=>0", "(a+0)=>a"), {badRules()["a right too long"]}}
	for name, was := range proofsOfAllKinds() {
		for _, rulesWere := range lists {
			p, rules := proofWithTail(was), rulesWithTail(rulesWere)
			parts, _, _, _ := impl.CheckProof(rules, p)
			spoilNumbers(parts)
			for _, k := range []int{-1, 0, 1, len(was.Links) - 1, len(was.Links), len(was.Nodes)} {
				impl.ShowsSame(rules, p, k, 0)
				dropped, _ := impl.DropLink(p, k)
				spoilProof(dropped)
			}
			expectProofTail(t, name, p, was)
			expectRulesWithTail(t, name, rules, rulesWere)
		}
	}
}

func TestProofForChangesNothingThatIsHandedIn(t *testing.T) {
	terms := [][]impl.Node{ringTerm(t, "(~(a+0)-~a)"), ringTerm(t, "((a+b)*(c-0))"), variable(0), negated(variable(0), impl.MaxNodes), nil}
	lists := [][]impl.Rule{nil, rulesOf(t, "(a+0)=>a", "(a+b)=>(b+a)", "(a-b)=>(a+~b)"), rulesOf(t, "(a-a)=>0", "(a+0)=>a"), {badRules()["a right too long"]}}
	for _, was := range terms {
		for _, rulesWere := range lists {
			for _, rounds := range []int{-1, 0, 3} {
				for _, nodes := range []int{-1, 0, 7, impl.MaxENodes} {
					term, rules := withTail(was), rulesWithTail(rulesWere)
					p, _ := impl.ProofFor(term, rules, rounds, nodes)
					spoilProof(p)
					if !slices.Equal(term[:cap(term)], withTail(was)[:cap(term)]) {
						t.Fatalf("the term is %v, was %v", term[:cap(term)], was)
					}
					expectRulesWithTail(t, "ProofFor", rules, rulesWere)
				}
			}
		}
	}
}

// expectOwnProofMemory writes over one list at a time, behind its length too.
func expectOwnProofMemory(t *testing.T, what string, p impl.Proof) {
	t.Helper()
	expectOwnMemory(t, what, impl.EGraph{Nodes: p.Nodes})
	for _, n := range p.Nodes[:cap(p.Nodes)][len(p.Nodes):] {
		if !sameENode(n, impl.ENode{}) {
			t.Errorf("%s: %v lies behind the nodes", what, n)
		}
	}
	for _, l := range p.Links[:cap(p.Links)][len(p.Links):] {
		if l != (impl.Link{}) {
			t.Errorf("%s: %v lies behind the links", what, l)
		}
	}
}

func TestProofsAreNewMemory(t *testing.T) {
	kids := []int{0, 0, 0}
	shared := proofOf([]impl.ENode{eVar(0), {Op: impl.OpAdd, Kids: kids[:2]}, {Op: impl.OpSub, Kids: kids[:2]}, {Op: impl.OpNeg, Kids: kids[1:2]}, {Op: impl.OpIf, Kids: kids}},
		link(0, 0, -1), link(1, 1, -1), link(2, 2, -1))
	for k := range shared.Links {
		dropped, ok := impl.DropLink(shared, k)
		if !ok {
			t.Error("want link", k, "to be dropped")
		}
		expectOwnProofMemory(t, "DropLink", dropped)
		again, _ := impl.DropLink(shared, k)
		expectDropped(t, "twice", shared, k, again)
		spoilProof(dropped)
		expectDropped(t, "behind that", shared, k, again)
	}
	if !slices.Equal(kids, []int{0, 0, 0}) || shared.Links[0] != link(0, 0, -1) || shared.Links[2] != link(2, 2, -1) {
		t.Errorf("the kids are %v, the links %v", kids, shared.Links)
	}
	rules := rulesOf(t, "(a+0)=>a", "(a+b)=>(b+a)", "(a-b)=>(a+~b)", "~~a=>a", "(a*b)=>((a+0)*(b+0))")
	for _, s := range []string{"a", "(a+0)", "(~(a+0)-~a)", "((a*b)-(c*b))", "((a?b:c)*(a?b:(c+0)))"} {
		for _, rounds := range []int{0, 1, 4} {
			for _, nodes := range []int{0, 9, 30, impl.MaxENodes} {
				first, _ := impl.ProofFor(ringTerm(t, s), rules, rounds, nodes)
				kept, _ := impl.ProofFor(ringTerm(t, s), rules, rounds, nodes)
				expectOwnProofMemory(t, "ProofFor "+s, first)
				spoilProof(first)
				expectProof(t, "again", ringTerm(t, s), rules, rounds, nodes, kept)
			}
		}
	}
}

func TestPartsOfProofsAreNewMemory(t *testing.T) {
	rules := rulesOf(t, "(a+0)=>a", "(0+0)=>0")
	for name, p := range proofsOfAllKinds() {
		first, code, at, _ := impl.CheckProof(rules, p)
		second, _, _, _ := impl.CheckProof(rules, p)
		for _, k := range first[:cap(first)][len(first):] {
			if k != 0 {
				t.Errorf("%s: %d lies behind the parts", name, k)
			}
		}
		expectListsApart(t, name, [][]int{first, second})
		spoilNumbers(first)
		if code == taken {
			expectTaken(t, name, rules, p, second...)
		} else {
			expectFaulty(t, name, rules, p, code, at)
		}
	}
}

func TestProofsReadNothingBehindTheLength(t *testing.T) {
	rules := rulesOf(t, "(a+0)=>a", "(a*1)=>a", "a=>a")
	nodes, links := negatedSums(), []impl.Link{link(2, 0, 0), link(3, 4, -1), link(9, 9, 9)}
	expectTaken(t, "a piece of the links", rules, impl.Proof{Nodes: nodes, Links: links[:2]}, 0, 1, 0, 3, 3)
	expectTaken(t, "a piece of both", rules, impl.Proof{Nodes: nodes[:3], Links: links[:1]}, 0, 1, 0)
	expectFaulty(t, "a piece of the nodes", rules, impl.Proof{Nodes: nodes[:4], Links: links[:2]}, noNodes, 1)
	expectFaulty(t, "a piece of the rules", rules[:0], impl.Proof{Nodes: nodes, Links: links[:1]}, noReason, 0)
	expectUnshown(t, "a piece of the nodes", rules, impl.Proof{Nodes: nodes[:3], Links: links[:1]}, 3, 3)
	expectNotDropped(t, "a piece of the links", impl.Proof{Nodes: nodes, Links: links[:2]}, 2)
	// A node's kids go on behind their length.
	long := slices.Clone(nodes)
	long[3].Kids = []int{2, 9, 9}[:1]
	expectTaken(t, "a piece of the kids", rules, impl.Proof{Nodes: long, Links: links[:2]}, 0, 1, 0, 3, 3)
	many := slices.Repeat(links[:1], impl.MaxLinks+1)
	expectTaken(t, "a piece of too many", rules, impl.Proof{Nodes: nodes, Links: many[:impl.MaxLinks]}, 0, 1, 0, 3, 4)
	expectProof(t, "a piece of the rules", ringTerm(t, "((a+0)*1)"), rules[:1], 3, 9,
		proofOf([]impl.ENode{eVar(0), eNum(0), eOp(impl.OpAdd, 0, 1), eNum(1), eOp(impl.OpMul, 2, 3)}, link(2, 0, 0)))
	whole := ringTerm(t, "~(a+0)")
	expectProof(t, "a piece of the term", whole[:3], rules, 3, 9, proofOf(nodes[:3], link(2, 0, 0)))
	expectNoProof(t, "a piece that is no term", whole[:2], rules, 3, 9)
}

func TestTheSameProofHasTheSameAnswer(t *testing.T) {
	r := rand.New(rand.NewSource(115))
	for range 30 {
		g := randomGrowth(t, r)
		want, _ := impl.ProofFor(g.term, g.rules, g.rounds, g.nodes)
		p := changedProof(r, want, len(g.rules))
		parts, code, at, _ := impl.CheckProof(g.rules, p)
		for range 3 {
			expectProof(t, "again", g.term, g.rules, g.rounds, g.nodes, want)
			if code == taken {
				expectTaken(t, "again", g.rules, p, parts...)
			} else {
				expectFaulty(t, "again", g.rules, p, code, at)
			}
		}
	}
}
