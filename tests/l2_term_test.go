package tests

import (
	"math"
	"math/rand"
	"slices"
	"testing"

	"loop.example/g00694/impl"
)

func num(n int64) []impl.Node { return []impl.Node{{Op: impl.OpNum, N: n}} }

func variable(v int64) []impl.Node { return []impl.Node{{Op: impl.OpVar, N: v}} }

// joinedNodes lays terms out by hand, so that the tests do not lean on JoinTerm.
func joinedNodes(op int, parts ...[]impl.Node) []impl.Node {
	return append(slices.Concat(parts...), impl.Node{Op: op})
}

func negated(t []impl.Node, times int) []impl.Node {
	t = slices.Clone(t)
	for range times {
		t = append(t, impl.Node{Op: impl.OpNeg})
	}
	return t
}

var opsWithParts = []struct{ op, arity int }{
	{impl.OpNeg, 1}, {impl.OpAdd, 2}, {impl.OpSub, 2}, {impl.OpMul, 2}, {impl.OpShl, 2},
	{impl.OpDiv, 2}, {impl.OpEq, 2}, {impl.OpLess, 2}, {impl.OpIf, 3},
}

// randomTerm has exactly so many nodes.
func randomTerm(r *rand.Rand, nodes int) []impl.Node {
	if nodes == 1 {
		if r.Intn(3) == 0 {
			return num(wrapNumbers[r.Intn(len(wrapNumbers))])
		}
		return variable(int64(r.Intn(impl.MaxVars)))
	}
	for {
		c := opsWithParts[r.Intn(len(opsWithParts))]
		if r.Intn(4) == 0 {
			c.op, c.arity = impl.OpIf, 3
		}
		if nodes-1 < c.arity {
			continue
		}
		sizes := make([]int, c.arity)
		for i := range sizes {
			sizes[i] = 1
		}
		for range nodes - 1 - c.arity {
			sizes[r.Intn(c.arity)]++
		}
		var parts [][]impl.Node
		for _, n := range sizes {
			parts = append(parts, randomTerm(r, n))
		}
		return joinedNodes(c.op, parts...)
	}
}

func randomEnv(r *rand.Rand) []int64 {
	env := make([]int64, impl.MaxVars)
	for i := range env {
		if env[i] = int64(r.Intn(5)) - 2; r.Intn(3) == 0 {
			env[i] = wrapNumbers[r.Intn(len(wrapNumbers))]
		}
	}
	return env
}

// A reckoned goes through a term from its root to the front: another way than the program's pile.
type reckoned struct {
	start     int
	n         int64
	traps     bool
	all, sure [impl.MaxVars]bool
}

func reckon(t []impl.Node, root int, env []int64) reckoned {
	node := t[root]
	out := reckoned{start: root}
	switch node.Op {
	case impl.OpNum:
		out.n = node.N
		return out
	case impl.OpVar:
		out.n = env[node.N]
		out.all[node.N], out.sure[node.N] = true, true
		return out
	}
	arity, _ := impl.ArityOf(node.Op)
	parts := make([]reckoned, arity)
	for i := arity - 1; i >= 0; i-- {
		parts[i] = reckon(t, out.start-1, env)
		out.start = parts[i].start
	}
	for i, p := range parts {
		for v := range p.all {
			out.all[v] = out.all[v] || p.all[v]
			out.sure[v] = out.sure[v] || p.sure[v] && (node.Op != impl.OpIf || i == 0)
		}
	}
	if node.Op == impl.OpIf {
		side := 2
		if parts[0].n != 0 {
			side = 1
		}
		out.n, out.traps = parts[side].n, parts[0].traps || parts[side].traps
	} else {
		args := make([]int64, arity)
		for i, p := range parts {
			args[i] = p.n
			out.traps = out.traps || p.traps
		}
		n, traps, _ := impl.DoOp(node.Op, args)
		out.n, out.traps = n, out.traps || traps
	}
	if out.traps {
		out.n = 0
	}
	return out
}

func listed(seen [impl.MaxVars]bool) []int {
	var l []int
	for v, is := range seen {
		if is {
			l = append(l, v)
		}
	}
	return l
}

var fourValues = []int64{3, -7, 0, 11}

func expectEval(t *testing.T, term []impl.Node, env []int64, want int64, wantTraps bool) {
	t.Helper()
	n, traps, ok := impl.EvalTerm(term, env)
	if n != want || traps != wantTraps || !ok {
		t.Errorf("EvalTerm(%v, %v) = %d, %v, %v, want %d, %v, true", term, env, n, traps, ok, want, wantTraps)
	}
}

func expectTerm(t *testing.T, what string, got []impl.Node, ok bool, want []impl.Node) {
	t.Helper()
	if !ok || !slices.Equal(got, want) {
		t.Errorf("%s = %v, %v, want %v, true", what, got, ok, want)
	}
}

func expectNoTerm(t *testing.T, what string, got []impl.Node, ok bool) {
	t.Helper()
	if ok || len(got) != 0 {
		t.Errorf("%s = %v, %v, want the zero answer", what, got, ok)
	}
}

// badTerms are of every kind of wrongness that chapter 2 names.
func badTerms() map[string][]impl.Node {
	bad := map[string][]impl.Node{
		"nil":                    nil,
		"empty":                  {},
		"two left":               slices.Concat(variable(0), num(1)),
		"three left":             slices.Concat(variable(0), num(1), num(2)),
		"an op alone":            {{Op: impl.OpNeg}},
		"an op in front":         {{Op: impl.OpNeg}, {Op: impl.OpVar}},
		"a sum of one":           {{Op: impl.OpVar}, {Op: impl.OpAdd}},
		"a sum ahead of its end": {{Op: impl.OpVar}, {Op: impl.OpAdd}, {Op: impl.OpVar}},
		"runs out, then one":     {{Op: impl.OpVar}, {Op: impl.OpAdd}, {Op: impl.OpVar}, {Op: impl.OpVar}},
		"a choice of two":        {{Op: impl.OpVar}, {Op: impl.OpVar}, {Op: impl.OpIf}},
		"a sum of three":         {{Op: impl.OpVar}, {Op: impl.OpVar}, {Op: impl.OpVar}, {Op: impl.OpAdd}},
		"one too many nodes":     negated(variable(0), impl.MaxNodes),
		"many too many nodes":    negated(variable(0), 5000),
		"a good one twice":       slices.Concat(negated(variable(0), 3), negated(variable(1), 3)),
	}
	for _, op := range []int{math.MinInt, -1, 0, 12, 13, 257, math.MaxInt} {
		bad["op "+impl.NumText(int64(op))] = []impl.Node{{Op: op}}
		bad["op above "+impl.NumText(int64(op))] = []impl.Node{{Op: impl.OpVar}, {Op: op}}
	}
	for _, v := range []int64{math.MinInt64, -1, impl.MaxVars, impl.MaxVars + 1, 256, 1 << 32, math.MaxInt64} {
		bad["variable "+impl.NumText(v)] = variable(v)
		bad["variable below "+impl.NumText(v)] = joinedNodes(impl.OpAdd, variable(0), variable(v))
	}
	for _, c := range opsWithParts {
		for _, n := range []int64{math.MinInt64, -1, 1, math.MaxInt64} {
			var t []impl.Node
			for range c.arity {
				t = append(t, impl.Node{Op: impl.OpVar})
			}
			bad["op "+impl.NumText(int64(c.op))+" with "+impl.NumText(n)] = append(t, impl.Node{Op: c.op, N: n})
		}
	}
	return bad
}

func TestGoodTerm(t *testing.T) {
	if impl.MaxNodes != 40 || impl.MaxVars != 4 {
		t.Fatal("limits", impl.MaxNodes, impl.MaxVars)
	}
	for _, n := range wrapNumbers {
		if !impl.GoodTerm(num(n)) {
			t.Error("a number", n)
		}
	}
	for v := range int64(impl.MaxVars) {
		if !impl.GoodTerm(variable(v)) {
			t.Error("a variable", v)
		}
	}
	for _, c := range opsWithParts {
		for n := range 6 {
			term := slices.Repeat([]impl.Node{{Op: impl.OpVar, N: 3}}, n)
			term = append(term, impl.Node{Op: c.op})
			if impl.GoodTerm(term) != (n == c.arity) {
				t.Errorf("op %d above %d parts", c.op, n)
			}
		}
	}
	if !impl.GoodTerm(negated(variable(0), impl.MaxNodes-1)) {
		t.Error("MaxNodes nodes")
	}
	for why, term := range badTerms() {
		if impl.GoodTerm(term) {
			t.Errorf("%s: %v is told to be good", why, term)
		}
	}
	r := rand.New(rand.NewSource(2))
	for nodes := 1; nodes <= impl.MaxNodes+3; nodes++ {
		for range 20 {
			if term := randomTerm(r, nodes); impl.GoodTerm(term) != (nodes <= impl.MaxNodes) {
				t.Errorf("GoodTerm of %d nodes: %v", nodes, term)
			}
		}
	}
}

func TestGoodTermReadsNothingBehindTheLength(t *testing.T) {
	whole := joinedNodes(impl.OpAdd, variable(0), variable(1))
	if impl.GoodTerm(whole[:2]) || !impl.GoodTerm(whole[:1]) || impl.GoodTerm(whole[:0]) {
		t.Error("a piece of a term is taken for the whole")
	}
}

func TestEvalTermAsItIsReckonedFromTheRoot(t *testing.T) {
	r := rand.New(rand.NewSource(3))
	trapped := 0
	for range 20000 {
		term, env := randomTerm(r, 1+r.Intn(impl.MaxNodes)), randomEnv(r)
		want := reckon(term, len(term)-1, env)
		expectEval(t, term, env, want.n, want.traps)
		if want.traps {
			trapped++
		}
	}
	if trapped < 100 || trapped > 15000 {
		t.Error("the terms are of one kind:", trapped, "trap")
	}
}

func TestEvalTermTakesPartsInOrder(t *testing.T) {
	a, b, c, d := variable(0), variable(1), variable(2), variable(3)
	env := []int64{7, 2, -5, 100}
	expectEval(t, a, env, 7, false)
	expectEval(t, d, env, 100, false)
	expectEval(t, num(math.MinInt64), env, math.MinInt64, false)
	expectEval(t, joinedNodes(impl.OpSub, a, b), env, 5, false)
	expectEval(t, joinedNodes(impl.OpShl, a, b), env, 28, false)
	expectEval(t, joinedNodes(impl.OpDiv, a, b), env, 3, false)
	expectEval(t, joinedNodes(impl.OpLess, a, b), env, 0, false)
	expectEval(t, joinedNodes(impl.OpLess, b, a), env, 1, false)
	expectEval(t, joinedNodes(impl.OpIf, a, b, c), env, 2, false)
	expectEval(t, joinedNodes(impl.OpIf, num(0), b, c), env, -5, false)
	expectEval(t, joinedNodes(impl.OpSub, joinedNodes(impl.OpSub, a, b), joinedNodes(impl.OpSub, c, d)), env, 110, false)
	expectEval(t, negated(a, impl.MaxNodes-1), env, -7, false)
}

func TestAChoiceReckonsOneSideAlone(t *testing.T) {
	trap := joinedNodes(impl.OpDiv, num(1), num(0))
	one, nought := num(1), num(0)
	choice := func(c, yes, no []impl.Node) []impl.Node { return joinedNodes(impl.OpIf, c, yes, no) }
	expectEval(t, choice(one, num(5), trap), fourValues, 5, false)
	expectEval(t, choice(nought, trap, num(6)), fourValues, 6, false)
	expectEval(t, choice(one, trap, num(5)), fourValues, 0, true)
	expectEval(t, choice(nought, num(5), trap), fourValues, 0, true)
	expectEval(t, choice(trap, num(5), num(6)), fourValues, 0, true)
	expectEval(t, choice(num(-1), num(5), trap), fourValues, 5, false)
	expectEval(t, choice(num(math.MinInt64), num(5), trap), fourValues, 5, false)
	expectEval(t, choice(num(1<<32), num(5), trap), fourValues, 5, false)
	expectEval(t, choice(choice(one, nought, trap), trap, num(6)), fourValues, 6, false)
	expectEval(t, choice(one, choice(nought, trap, num(7)), trap), fourValues, 7, false)
	expectEval(t, choice(nought, trap, choice(one, num(8), trap)), fourValues, 8, false)
	expectEval(t, choice(nought, choice(one, trap, trap), choice(nought, trap, num(9))), fourValues, 9, false)
	expectEval(t, choice(one, choice(one, trap, num(7)), num(5)), fourValues, 0, true)
	expectEval(t, choice(choice(nought, one, trap), num(5), num(5)), fourValues, 0, true)
}

func TestAllElseReckonsAllItsParts(t *testing.T) {
	trap := joinedNodes(impl.OpDiv, variable(0), variable(2))
	for _, c := range opsWithParts {
		if c.arity != 2 {
			continue
		}
		for _, n := range []int64{0, 1, -1} {
			expectEval(t, joinedNodes(c.op, num(n), trap), fourValues, 0, true)
			expectEval(t, joinedNodes(c.op, trap, num(n)), fourValues, 0, true)
		}
	}
	expectEval(t, negated(trap, 1), fourValues, 0, true)
	expectEval(t, joinedNodes(impl.OpMul, num(0), joinedNodes(impl.OpIf, num(1), trap, num(2))), fourValues, 0, true)
	expectEval(t, joinedNodes(impl.OpDiv, num(math.MinInt64), num(-1)), fourValues, math.MinInt64, false)
}

func TestEvalTermOfWrongArguments(t *testing.T) {
	values := []int64{1, 2, 3, 4, 5, 6}
	for n := range len(values) + 1 {
		if n == impl.MaxVars {
			continue
		}
		for _, term := range [][]impl.Node{num(5), variable(0), joinedNodes(impl.OpDiv, num(1), num(0))} {
			if got, traps, ok := impl.EvalTerm(term, values[:n]); got != 0 || traps || ok {
				t.Errorf("EvalTerm of %d values = %d, %v, %v", n, got, traps, ok)
			}
		}
	}
	if got, traps, ok := impl.EvalTerm(num(5), nil); got != 0 || traps || ok {
		t.Errorf("EvalTerm of no values = %d, %v, %v", got, traps, ok)
	}
}

func TestBadTermsHaveTheZeroAnswer(t *testing.T) {
	good := variable(0)
	for why, bad := range badTerms() {
		if n, traps, ok := impl.EvalTerm(bad, fourValues); n != 0 || traps || ok {
			t.Errorf("%s: EvalTerm = %d, %v, %v", why, n, traps, ok)
		}
		if l, ok := impl.VarsIn(bad); len(l) != 0 || ok {
			t.Errorf("%s: VarsIn = %v, %v", why, l, ok)
		}
		if l, ok := impl.SureVars(bad); len(l) != 0 || ok {
			t.Errorf("%s: SureVars = %v, %v", why, l, ok)
		}
		p, ok := impl.PutAll(bad, [][]impl.Node{good, good, good, good})
		expectNoTerm(t, why+": PutAll", p, ok)
		for k := -1; k <= len(bad) && k < 60; k++ {
			p, ok = impl.PartAt(bad, k)
			expectNoTerm(t, why+": PartAt", p, ok)
			p, ok = impl.ReplaceAt(bad, k, good)
			expectNoTerm(t, why+": ReplaceAt", p, ok)
		}
		p, ok = impl.ReplaceAt(good, 0, bad)
		expectNoTerm(t, why+": ReplaceAt by it", p, ok)
		for i := range impl.MaxVars {
			by := [][]impl.Node{good, good, good, good}
			by[i] = bad
			p, ok = impl.PutAll(num(1), by)
			expectNoTerm(t, why+": PutAll by it", p, ok)
		}
		for _, c := range opsWithParts {
			for i := range c.arity {
				parts := [][]impl.Node{good, good, good}[:c.arity]
				parts[i] = bad
				p, ok = impl.JoinTerm(c.op, parts)
				expectNoTerm(t, why+": JoinTerm", p, ok)
			}
		}
	}
}

func TestBadTermsThatTogetherWouldBeGood(t *testing.T) {
	// Two left over and one too few would make up for each other.
	two, rest := slices.Concat(variable(0), variable(1)), []impl.Node{{Op: impl.OpAdd}}
	p, ok := impl.JoinTerm(impl.OpAdd, [][]impl.Node{slices.Concat(two, variable(2)), rest})
	expectNoTerm(t, "JoinTerm", p, ok)
	p, ok = impl.JoinTerm(impl.OpIf, [][]impl.Node{two, {}, variable(2)})
	expectNoTerm(t, "JoinTerm", p, ok)
	p, ok = impl.PutAll(variable(0), [][]impl.Node{variable(0), rest, variable(0), variable(0)})
	expectNoTerm(t, "PutAll", p, ok)
}

func TestVarsInAndSureVars(t *testing.T) {
	r := rand.New(rand.NewSource(4))
	for range 5000 {
		term := randomTerm(r, 1+r.Intn(impl.MaxNodes))
		want := reckon(term, len(term)-1, fourValues)
		if l, ok := impl.VarsIn(term); !ok || !slices.Equal(l, listed(want.all)) {
			t.Errorf("VarsIn(%v) = %v, %v, want %v", term, l, ok, listed(want.all))
		}
		if l, ok := impl.SureVars(term); !ok || !slices.Equal(l, listed(want.sure)) {
			t.Errorf("SureVars(%v) = %v, %v, want %v", term, l, ok, listed(want.sure))
		}
	}
}

func TestSureVarsOfChoices(t *testing.T) {
	a, b, c, d := variable(0), variable(1), variable(2), variable(3)
	for _, x := range []struct {
		term      []impl.Node
		all, sure []int
	}{
		{num(0), nil, nil},
		{d, []int{3}, []int{3}},
		{joinedNodes(impl.OpIf, a, b, c), []int{0, 1, 2}, []int{0}},
		{joinedNodes(impl.OpIf, a, b, b), []int{0, 1}, []int{0}},
		{joinedNodes(impl.OpIf, num(1), b, c), []int{1, 2}, nil},
		{joinedNodes(impl.OpIf, joinedNodes(impl.OpIf, d, b, c), a, a), []int{0, 1, 2, 3}, []int{3}},
		{joinedNodes(impl.OpAdd, joinedNodes(impl.OpIf, d, b, c), a), []int{0, 1, 2, 3}, []int{0, 3}},
		{joinedNodes(impl.OpAdd, joinedNodes(impl.OpIf, d, b, c), b), []int{1, 2, 3}, []int{1, 3}},
		{joinedNodes(impl.OpIf, joinedNodes(impl.OpMul, d, c), b, a), []int{0, 1, 2, 3}, []int{2, 3}},
		{negated(joinedNodes(impl.OpSub, d, b), 2), []int{1, 3}, []int{1, 3}},
		{joinedNodes(impl.OpMul, d, joinedNodes(impl.OpMul, c, joinedNodes(impl.OpMul, b, a))), []int{0, 1, 2, 3}, []int{0, 1, 2, 3}},
	} {
		if l, ok := impl.VarsIn(x.term); !ok || !slices.Equal(l, x.all) {
			t.Errorf("VarsIn(%v) = %v, %v, want %v", x.term, l, ok, x.all)
		}
		if l, ok := impl.SureVars(x.term); !ok || !slices.Equal(l, x.sure) {
			t.Errorf("SureVars(%v) = %v, %v, want %v", x.term, l, ok, x.sure)
		}
	}
}

func TestWhatIsPutDoesAsItsValues(t *testing.T) {
	r := rand.New(rand.NewSource(5))
	put, told := 0, 0
	for range 20000 {
		term, env := randomTerm(r, 1+r.Intn(16)), randomEnv(r)
		by, values, traps := make([][]impl.Node, impl.MaxVars), make([]int64, impl.MaxVars), false
		for i := range by {
			by[i] = randomTerm(r, 1+r.Intn(8))
			n, trap, _ := impl.EvalTerm(by[i], env)
			values[i], traps = n, traps || trap
		}
		whole, ok := impl.PutAll(term, by)
		nodes := 0
		for _, n := range term {
			if nodes++; n.Op == impl.OpVar {
				nodes += len(by[n.N]) - 1
			}
		}
		if ok != (nodes <= impl.MaxNodes) || !ok && len(whole) != 0 || ok && len(whole) != nodes {
			t.Errorf("PutAll(%v, %v) = %v, %v", term, by, whole, ok)
		}
		if !ok || traps {
			continue
		}
		put++
		n, trap, _ := impl.EvalTerm(term, values)
		if trap {
			told++
		}
		expectEval(t, whole, env, n, trap)
	}
	if put < 1000 || told < 20 {
		t.Error("too few were put, or too few of them trap:", put, told)
	}
}

func TestPutAllAtTheEdges(t *testing.T) {
	a, b, c, d := variable(0), variable(1), variable(2), variable(3)
	same := [][]impl.Node{a, b, c, d}
	turned := [][]impl.Node{d, c, b, a}
	term := joinedNodes(impl.OpIf, a, joinedNodes(impl.OpSub, b, c), negated(d, 1))
	p, ok := impl.PutAll(term, same)
	expectTerm(t, "PutAll of itself", p, ok, term)
	p, ok = impl.PutAll(term, turned)
	expectTerm(t, "PutAll turned", p, ok, joinedNodes(impl.OpIf, d, joinedNodes(impl.OpSub, c, b), negated(a, 1)))
	p, ok = impl.PutAll(num(0), turned)
	expectTerm(t, "PutAll of a number that is like a variable", p, ok, num(0))

	full := negated(b, impl.MaxNodes-1)
	p, ok = impl.PutAll(a, [][]impl.Node{full, b, c, d})
	expectTerm(t, "PutAll of MaxNodes nodes", p, ok, full)
	p, ok = impl.PutAll(negated(a, 1), [][]impl.Node{full, b, c, d})
	expectNoTerm(t, "PutAll of one node too many", p, ok)
	p, ok = impl.PutAll(joinedNodes(impl.OpAdd, a, c), [][]impl.Node{full[:impl.MaxNodes-2], b, c, d})
	expectTerm(t, "PutAll of MaxNodes nodes", p, ok, joinedNodes(impl.OpAdd, full[:impl.MaxNodes-2], c))
	p, ok = impl.PutAll(joinedNodes(impl.OpAdd, a, c), [][]impl.Node{full[:impl.MaxNodes-1], b, c, d})
	expectNoTerm(t, "PutAll of one node too many", p, ok)
	p, ok = impl.PutAll(negated(c, 5), [][]impl.Node{full, full, num(2), full})
	expectTerm(t, "PutAll of one that counts alone", p, ok, negated(num(2), 5))

	for n := range 7 {
		by := slices.Concat(turned, turned)[:n]
		if p, ok = impl.PutAll(num(4), by); n != impl.MaxVars {
			expectNoTerm(t, "PutAll by too few or too many", p, ok)
		}
	}
	p, ok = impl.PutAll(num(4), nil)
	expectNoTerm(t, "PutAll by none", p, ok)
}

func TestPartAtAndReplaceAt(t *testing.T) {
	r := rand.New(rand.NewSource(6))
	for range 2000 {
		term, u := randomTerm(r, 1+r.Intn(impl.MaxNodes)), randomTerm(r, 1+r.Intn(12))
		for k := range term {
			start := reckon(term, k, fourValues).start
			p, ok := impl.PartAt(term, k)
			expectTerm(t, "PartAt", p, ok, term[start:k+1])
			want := slices.Concat(term[:start], u, term[k+1:])
			p, ok = impl.ReplaceAt(term, k, u)
			if len(want) <= impl.MaxNodes {
				expectTerm(t, "ReplaceAt", p, ok, want)
			} else {
				expectNoTerm(t, "ReplaceAt", p, ok)
			}
		}
		for _, k := range []int{math.MinInt, -1, len(term), len(term) + 1, math.MaxInt} {
			p, ok := impl.PartAt(term, k)
			expectNoTerm(t, "PartAt of no node", p, ok)
			p, ok = impl.ReplaceAt(term, k, u)
			expectNoTerm(t, "ReplaceAt of no node", p, ok)
		}
	}
}

func TestPartAtAndReplaceAtAtTheEdges(t *testing.T) {
	a, b, c := variable(0), variable(1), variable(2)
	term := joinedNodes(impl.OpIf, a, joinedNodes(impl.OpDiv, b, c), num(8))
	p, ok := impl.PartAt(term, 0)
	expectTerm(t, "PartAt the first", p, ok, a)
	p, ok = impl.PartAt(term, len(term)-1)
	expectTerm(t, "PartAt the root", p, ok, term)
	p, ok = impl.PartAt(term, 3)
	expectTerm(t, "PartAt the quotient", p, ok, joinedNodes(impl.OpDiv, b, c))
	p, ok = impl.ReplaceAt(term, 0, num(1))
	expectTerm(t, "ReplaceAt the first", p, ok, joinedNodes(impl.OpIf, num(1), joinedNodes(impl.OpDiv, b, c), num(8)))
	p, ok = impl.ReplaceAt(term, len(term)-1, c)
	expectTerm(t, "ReplaceAt the root", p, ok, c)
	p, ok = impl.ReplaceAt(term, 4, negated(c, 2))
	expectTerm(t, "ReplaceAt the last leaf", p, ok, joinedNodes(impl.OpIf, a, joinedNodes(impl.OpDiv, b, c), negated(c, 2)))

	for more := range 3 {
		u := negated(c, impl.MaxNodes-len(term)+2+more-1)
		p, ok = impl.ReplaceAt(term, 3, u)
		if want := joinedNodes(impl.OpIf, a, u, num(8)); len(want) <= impl.MaxNodes {
			expectTerm(t, "ReplaceAt of MaxNodes nodes", p, ok, want)
		} else {
			expectNoTerm(t, "ReplaceAt of too many nodes", p, ok)
		}
	}
	full := negated(b, impl.MaxNodes-1)
	p, ok = impl.ReplaceAt(full, impl.MaxNodes-1, negated(c, impl.MaxNodes-1))
	expectTerm(t, "ReplaceAt the root of MaxNodes nodes", p, ok, negated(c, impl.MaxNodes-1))
	p, ok = impl.ReplaceAt(full, 0, negated(c, 1))
	expectNoTerm(t, "ReplaceAt of one node too many", p, ok)
}

func TestJoinTerm(t *testing.T) {
	r := rand.New(rand.NewSource(7))
	for range 3000 {
		parts := [][]impl.Node{randomTerm(r, 1+r.Intn(25)), randomTerm(r, 1+r.Intn(25)), randomTerm(r, 1+r.Intn(25)), num(1)}
		for _, c := range opsWithParts {
			for n := range len(parts) + 1 {
				want := joinedNodes(c.op, parts[:n]...)
				p, ok := impl.JoinTerm(c.op, parts[:n])
				if n == c.arity && len(want) <= impl.MaxNodes {
					expectTerm(t, "JoinTerm", p, ok, want)
				} else {
					expectNoTerm(t, "JoinTerm", p, ok)
				}
			}
		}
	}
}

func TestJoinTermAtTheEdges(t *testing.T) {
	a := variable(0)
	for _, op := range []int{math.MinInt, -1, 0, impl.OpNum, impl.OpVar, 12, 13, math.MaxInt} {
		for n := range 5 {
			p, ok := impl.JoinTerm(op, slices.Repeat([][]impl.Node{a}, n))
			expectNoTerm(t, "JoinTerm of no such op", p, ok)
		}
		p, ok := impl.JoinTerm(op, nil)
		expectNoTerm(t, "JoinTerm of no such op", p, ok)
	}
	for _, c := range opsWithParts {
		rest := negated(a, impl.MaxNodes-1-c.arity)
		parts := slices.Repeat([][]impl.Node{a}, c.arity)
		parts[c.arity-1] = rest
		p, ok := impl.JoinTerm(c.op, parts)
		expectTerm(t, "JoinTerm of MaxNodes nodes", p, ok, joinedNodes(c.op, parts...))
		parts[c.arity-1] = negated(rest, 1)
		p, ok = impl.JoinTerm(c.op, parts)
		expectNoTerm(t, "JoinTerm of one node too many", p, ok)
	}
	p, ok := impl.JoinTerm(impl.OpAdd, slices.Repeat([][]impl.Node{negated(a, 20)}, 100000))
	expectNoTerm(t, "JoinTerm of many parts", p, ok)
}

// withTail gives a list more memory than its length, filled, so that a write behind the length shows.
func withTail(t []impl.Node) []impl.Node {
	tail := slices.Repeat([]impl.Node{{Op: impl.OpLess, N: 77}}, 2*impl.MaxNodes)
	return slices.Concat(t, tail)[:len(t)]
}

func TestTermsThatAreHandedInStayAsTheyAre(t *testing.T) {
	r := rand.New(rand.NewSource(8))
	for range 500 {
		lists := make([][]impl.Node, 6)
		var kept [][]impl.Node
		for i := range lists {
			lists[i] = withTail(randomTerm(r, 1+r.Intn(12)))
			kept = append(kept, slices.Clone(lists[i][:cap(lists[i])]))
		}
		term, u, by := lists[0], lists[1], lists[2:6]
		env := slices.Clone(fourValues)
		k := r.Intn(len(term))
		impl.GoodTerm(term)
		impl.EvalTerm(term, env)
		impl.VarsIn(term)
		impl.SureVars(term)
		answers := make([][]impl.Node, 4)
		answers[0], _ = impl.PutAll(term, by)
		answers[1], _ = impl.PartAt(term, k)
		answers[2], _ = impl.ReplaceAt(term, k, u)
		answers[3], _ = impl.JoinTerm(impl.OpIf, lists[:3])
		for _, a := range answers {
			spoil(a)
		}
		for i, l := range lists {
			if whole := l[:cap(l)]; !slices.Equal(whole, kept[i]) {
				t.Fatalf("a list was changed, or is shared with an answer: %v, was %v", whole, kept[i])
			}
		}
		if !slices.Equal(env, fourValues) {
			t.Fatal("the values were changed", env)
		}
	}
}

func spoil(nodes []impl.Node) {
	nodes = nodes[:cap(nodes)]
	for i := range nodes {
		nodes[i] = impl.Node{Op: -99, N: -99}
	}
}

func TestAnswersOfSingleNodesAreNewMemory(t *testing.T) {
	a := variable(0)
	same := [][]impl.Node{variable(0), variable(1), variable(2), variable(3)}
	first, _ := impl.PartAt(a, 0)
	second, _ := impl.ReplaceAt(a, 0, same[1])
	third, _ := impl.PutAll(a, same)
	for _, l := range [][]impl.Node{first, second, third} {
		spoil(l)
	}
	if !slices.Equal(a, variable(0)) {
		t.Error("the term is shared with an answer", a)
	}
	for v, l := range same {
		if !slices.Equal(l, variable(int64(v))) {
			t.Error("a term of by is shared with an answer", l)
		}
	}
}

func TestPutAllKeepsTheListOfTermsAsItIs(t *testing.T) {
	whole := [][]impl.Node{variable(0), variable(1), variable(2), variable(3), variable(0)}
	impl.PutAll(joinedNodes(impl.OpAdd, variable(3), variable(0)), whole[:impl.MaxVars])
	impl.JoinTerm(impl.OpAdd, whole[:2])
	for i, l := range whole {
		if !slices.Equal(l, variable(int64(i%impl.MaxVars))) {
			t.Error("the list of terms was changed", i, l)
		}
	}
}
