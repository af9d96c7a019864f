package tests

import (
	"math"
	"math/big"
	"math/rand"
	"slices"
	"sort"
	"testing"

	"loop.example/g00694/impl"
)

// A model is a sum of products of another make than the program's: whole
// numbers without bounds, by their powers written as one number, two digits each.
type model map[int]*big.Int

func modelKey(powers []int) int {
	key := 0
	for _, p := range powers {
		key = key*100 + p
	}
	return key
}

func keyPowers(key int) []int {
	powers := make([]int, impl.MaxVars)
	for v := impl.MaxVars - 1; v >= 0; v-- {
		powers[v] = key % 100
		key /= 100
	}
	return powers
}

func (m model) plus(key int, n *big.Int) {
	if m[key] == nil {
		m[key] = new(big.Int)
	}
	m[key].Add(m[key], n)
}

func modelOf(p []impl.Mono) model {
	m := model{}
	for _, x := range p {
		m.plus(modelKey(x.Powers), big.NewInt(x.N))
	}
	return m
}

func modelSum(a, b model, sign int64) model {
	m := model{}
	for key, n := range a {
		m.plus(key, n)
	}
	for key, n := range b {
		m.plus(key, new(big.Int).Mul(n, big.NewInt(sign)))
	}
	return m
}

func modelProduct(a, b model) model {
	m := model{}
	for key, n := range a {
		for more, by := range b {
			m.plus(key+more, new(big.Int).Mul(n, by))
		}
	}
	return m
}

// told writes a model as the program must tell it, and whether it is good.
func (m model) told() ([]impl.Mono, bool) {
	var keys []int
	for key := range m {
		keys = append(keys, key)
	}
	sort.Sort(sort.Reverse(sort.IntSlice(keys)))
	var p []impl.Mono
	for _, key := range keys {
		n := wrapped(m[key])
		if n == 0 {
			continue
		}
		powers := keyPowers(key)
		if slices.Max(powers) > impl.MaxPower {
			return nil, false
		}
		p = append(p, impl.Mono{Powers: powers, N: n})
	}
	if len(p) > impl.MaxMonos {
		return nil, false
	}
	return p, true
}

// ringModel goes through a term from its root to the front. It tells the sum of
// products, where the tree starts, and whether it and all parts are good.
func ringModel(t []impl.Node, root int) (model, int, bool) {
	node := t[root]
	m, start, ok := model{}, root, true
	switch node.Op {
	case impl.OpNum:
		m.plus(0, big.NewInt(node.N))
	case impl.OpVar:
		powers := make([]int, impl.MaxVars)
		powers[node.N] = 1
		m.plus(modelKey(powers), big.NewInt(1))
	case impl.OpNeg:
		m, start, ok = ringModel(t, root-1)
		m = modelSum(model{}, m, -1)
	default:
		second, middle, fine := ringModel(t, root-1)
		first, front, good := ringModel(t, middle-1)
		start, ok = front, fine && good
		switch node.Op {
		case impl.OpAdd:
			m = modelSum(first, second, 1)
		case impl.OpSub:
			m = modelSum(first, second, -1)
		case impl.OpMul:
			m = modelProduct(first, second)
		case impl.OpShl:
			by := new(big.Int).Mod(big.NewInt(t[root-1].N), big.NewInt(64)).Uint64()
			m = modelProduct(first, model{0: new(big.Int).Lsh(big.NewInt(1), uint(by))})
		}
	}
	p, good := m.told()
	return modelOf(p), start, ok && good
}

func wantPoly(t []impl.Node) ([]impl.Mono, bool) {
	m, _, ok := ringModel(t, len(t)-1)
	if !ok {
		return nil, false
	}
	return m.told()
}

func mono(n int64, powers ...int) impl.Mono {
	return impl.Mono{Powers: powers, N: n}
}

func samePoly(p, q []impl.Mono) bool {
	return slices.EqualFunc(p, q, func(a, b impl.Mono) bool {
		return a.N == b.N && slices.Equal(a.Powers, b.Powers)
	})
}

func expectPoly(t *testing.T, what string, got []impl.Mono, ok bool, want []impl.Mono) {
	t.Helper()
	if !ok || !samePoly(got, want) {
		t.Errorf("%s = %v, %v, want %v, true", what, got, ok, want)
	}
}

func expectNoPoly(t *testing.T, what string, got []impl.Mono, ok bool) {
	t.Helper()
	if ok || len(got) != 0 {
		t.Errorf("%s = %v, %v, want the zero answer", what, got, ok)
	}
}

func expectPolyOrNone(t *testing.T, what string, got []impl.Mono, ok bool, want []impl.Mono, is bool) {
	t.Helper()
	if is {
		expectPoly(t, what, got, ok, want)
	} else {
		expectNoPoly(t, what, got, ok)
	}
}

func ringTerm(t *testing.T, s string) []impl.Node {
	t.Helper()
	term, at, ok := impl.ReadTerm(s)
	if !ok {
		t.Fatalf("%q is no term at %d", s, at)
	}
	return term
}

func expectPolyOf(t *testing.T, s string, want ...impl.Mono) {
	t.Helper()
	p, ok := impl.PolyOf(ringTerm(t, s))
	expectPoly(t, "PolyOf "+s, p, ok, want)
}

func expectNoPolyOf(t *testing.T, s string) {
	t.Helper()
	p, ok := impl.PolyOf(ringTerm(t, s))
	expectNoPoly(t, "PolyOf "+s, p, ok)
}

// ringNumbers has many powers of 2, so that products fall out by wrapping.
var ringNumbers = []int64{
	0, 1, -1, 2, -2, 3, -5, 7, 1 << 16, 1 << 31, 1 << 32, -1 << 32, 3 << 32, 1 << 62, math.MinInt64, math.MaxInt64, 6148914691236517205,
}

var shiftNumbers = []int64{0, 1, 2, 31, 32, 33, 62, 63, 64, 65, 127, 128, -1, -2, -32, -63, -64, -65, math.MinInt64, math.MaxInt64}

// randomRing is a term of sums and products of exactly so many nodes.
func randomRing(r *rand.Rand, nodes int) []impl.Node {
	if nodes == 1 {
		if r.Intn(3) == 0 {
			return num(ringNumbers[r.Intn(len(ringNumbers))])
		}
		return variable(int64(r.Intn(impl.MaxVars)))
	}
	if nodes == 2 || r.Intn(8) == 0 {
		return negated(randomRing(r, nodes-1), 1)
	}
	if r.Intn(8) == 0 {
		return joinedNodes(impl.OpShl, randomRing(r, nodes-2), num(shiftNumbers[r.Intn(len(shiftNumbers))]))
	}
	op := []int{impl.OpAdd, impl.OpSub, impl.OpMul, impl.OpMul}[r.Intn(4)]
	left := 1 + r.Intn(nodes-2)
	return joinedNodes(op, randomRing(r, left), randomRing(r, nodes-1-left))
}

// randomFactor is one variable, or, where it is wide, a sum of most of them and a number.
func randomFactor(r *rand.Rand, vars int, wide bool) []impl.Node {
	factor := variable(int64(r.Intn(vars)))
	if !wide {
		return factor
	}
	for v := range int64(vars) {
		if v != factor[0].N && r.Intn(8) != 0 {
			factor = joinedNodes(impl.OpAdd+r.Intn(2), factor, variable(v))
		}
	}
	if r.Intn(2) == 0 {
		factor = joinedNodes(impl.OpAdd, factor, num(ringNumbers[r.Intn(len(ringNumbers))]))
	}
	return factor
}

// randomWide multiplies factors till no more nodes fit, so that many of its
// terms come to a limit, or only a part of them does.
func randomWide(r *rand.Rand) []impl.Node {
	vars, wide := 1+r.Intn(impl.MaxVars), r.Intn(3) != 0
	term := randomFactor(r, vars, wide)
	for {
		op, factor := impl.OpMul, randomFactor(r, vars, wide)
		switch r.Intn(30) {
		case 0:
			op = impl.OpSub
		case 1:
			factor = num(0)
		}
		if len(term)+len(factor)+1 > impl.MaxNodes {
			return term
		}
		term = joinedNodes(op, term, factor)
	}
}

// randomPoly is good, and has at most so many products with powers up to high.
func randomPoly(r *rand.Rand, products, high int) []impl.Mono {
	m := model{}
	for range r.Intn(products + 1) {
		powers := make([]int, impl.MaxVars)
		for v := range powers {
			powers[v] = r.Intn(high + 1)
		}
		m[modelKey(powers)] = big.NewInt(ringNumbers[r.Intn(len(ringNumbers))])
	}
	p, _ := m.told()
	return p
}

// manyProducts has so many products of the variables 0 and 1, at most 100, all with the N n.
func manyProducts(count int, n int64) []impl.Mono {
	var p []impl.Mono
	for k := count - 1; k >= 0; k-- {
		p = append(p, mono(n, k/10, k%10, 0, 0))
	}
	return p
}

// badPolys are of every kind of wrongness that chapter 4 names.
func badPolys() map[string][]impl.Mono {
	fine, last := mono(5, 9, 9, 9, 9), mono(7, 0, 0, 0, 0)
	bad := map[string][]impl.Mono{
		"twice the same Powers":         {mono(1, 1, 0, 0, 0), mono(2, 1, 0, 0, 0)},
		"twice the same product":        {fine, fine},
		"twice none":                    {last, last},
		"the same ahead and at the end": {mono(1, 1, 0, 0, 0), mono(1, 0, 0, 0, 0), mono(1, 1, 0, 0, 0)},
		"rising by the first power":     {mono(1, 0, 9, 9, 9), mono(1, 1, 0, 0, 0)},
		"rising by the second power":    {mono(1, 2, 0, 9, 9), mono(1, 2, 1, 0, 0)},
		"rising by the third power":     {mono(1, 2, 3, 0, 9), mono(1, 2, 3, 1, 0)},
		"rising by the last power":      {mono(1, 2, 3, 4, 0), mono(1, 2, 3, 4, 1)},
		"rising behind two":             {mono(1, 3, 0, 0, 0), mono(1, 2, 0, 0, 0), mono(1, 2, 0, 0, 1)},
		"rising and falling":            {mono(1, 1, 0, 0, 0), mono(1, 3, 0, 0, 0), mono(1, 2, 0, 0, 0)},
		"one product too many":          manyProducts(impl.MaxMonos+1, 1),
		"many products too many":        slices.Repeat([]impl.Mono{fine}, 5000),
	}
	for why, m := range map[string]impl.Mono{
		"no N":             mono(0, 1, 2, 3, 4),
		"no N, no powers":  mono(0, 0, 0, 0, 0),
		"nil Powers":       {N: 1},
		"nothing":          {},
		"empty Powers":     {Powers: []int{}, N: 1},
		"one power":        mono(1, 1),
		"three Powers":     mono(1, 1, 2, 3),
		"five Powers":      mono(1, 1, 2, 3, 4, 5),
		"five with a 0":    mono(1, 1, 2, 3, 4, 0),
		"a thousand":       {Powers: make([]int, 1000), N: 1},
		"three of four":    {Powers: []int{1, 2, 3, 4}[:3], N: 1},
		"a negative first": mono(1, -1, 0, 0, 0),
		"least first":      mono(1, math.MinInt, 0, 0, 0),
		"10 first":         mono(1, impl.MaxPower+1, 0, 0, 0),
		"10 second":        mono(1, 0, impl.MaxPower+1, 0, 0),
		"10 third":         mono(1, 0, 0, impl.MaxPower+1, 0),
		"10 last":          mono(1, 0, 0, 0, impl.MaxPower+1),
		"-1 second":        mono(1, 0, -1, 0, 0),
		"-1 third":         mono(1, 0, 0, -1, 0),
		"-1 last":          mono(1, 9, 9, 9, -1),
		"greatest last":    mono(1, 0, 0, 0, math.MaxInt),
		"too high by 256":  mono(1, 256, 0, 0, 0),
		"too high by 2^32": mono(1, 1<<32, 0, 0, 0),
	} {
		bad[why] = []impl.Mono{m}
		bad[why+" behind"] = []impl.Mono{fine, m}
		bad[why+" ahead"] = []impl.Mono{m, last}
		bad[why+" between"] = []impl.Mono{fine, m, last}
	}
	return bad
}

func TestGoodPoly(t *testing.T) {
	if impl.MaxMonos != 40 || impl.MaxPower != 9 {
		t.Fatal("limits", impl.MaxMonos, impl.MaxPower)
	}
	for why, p := range map[string][]impl.Mono{
		"nil":                        nil,
		"empty":                      {},
		"a number":                   {mono(1, 0, 0, 0, 0)},
		"the least number":           {mono(math.MinInt64, 0, 0, 0, 0)},
		"the highest powers":         {mono(-1, 9, 9, 9, 9)},
		"falling by the first":       {mono(1, 1, 0, 0, 0), mono(1, 0, 9, 9, 9)},
		"falling by the second":      {mono(1, 2, 1, 0, 0), mono(1, 2, 0, 9, 9)},
		"falling by the third":       {mono(1, 2, 3, 1, 0), mono(1, 2, 3, 0, 9)},
		"falling by the last":        {mono(1, 2, 3, 4, 1), mono(1, 2, 3, 4, 0)},
		"a lesser sum of powers":     {mono(1, 2, 0, 0, 0), mono(1, 1, 9, 9, 9), mono(1, 1, 9, 9, 8)},
		"MaxMonos products":          manyProducts(impl.MaxMonos, 1),
		"a piece of one that is bad": []impl.Mono{mono(1, 1, 0, 0, 0), mono(0, 0, 0, 0, 0)}[:1],
		"Powers with more behind":    {{Powers: []int{1, 2, 3, 4, -5, 99}[:4], N: 1}},
	} {
		if !impl.GoodPoly(p) {
			t.Errorf("%s: %v is told not to be good", why, p)
		}
	}
	for why, p := range badPolys() {
		if impl.GoodPoly(p) {
			t.Errorf("%s: %v is told to be good", why, p)
		}
	}
}

func TestGoodPolyOfAnyTwoProducts(t *testing.T) {
	r := rand.New(rand.NewSource(40))
	for range 20000 {
		a, b := make([]int, impl.MaxVars), make([]int, impl.MaxVars)
		for v := range a {
			a[v], b[v] = r.Intn(3), r.Intn(3)
		}
		want := modelKey(a) > modelKey(b)
		if impl.GoodPoly([]impl.Mono{{Powers: a, N: 1}, {Powers: b, N: -1}}) != want {
			t.Errorf("GoodPoly of the Powers %v and %v is not %v", a, b, want)
		}
	}
}

func expectRing(t *testing.T, term []impl.Node, want bool) {
	t.Helper()
	if is, ok := impl.IsRing(term); is != want || !ok {
		t.Errorf("IsRing(%s) = %v, %v, want %v, true", written(term), is, ok, want)
	}
	if !want {
		p, ok := impl.PolyOf(term)
		expectNoPoly(t, "PolyOf "+written(term), p, ok)
		for _, other := range [][]impl.Node{term, num(0), variable(0)} {
			expectNotAsked(t, term, other)
		}
	}
}

// expectNotAsked is for two terms of which one at least has no sum of products.
func expectNotAsked(t *testing.T, term, other []impl.Node) {
	t.Helper()
	if is, ok := impl.SameRing(term, other); is || ok {
		t.Errorf("SameRing(%v, %v) = %v, %v, want the zero answer", term, other, is, ok)
	}
	if is, ok := impl.SameRing(other, term); is || ok {
		t.Errorf("SameRing(%v, %v) = %v, %v, want the zero answer", other, term, is, ok)
	}
}

func TestIsRing(t *testing.T) {
	ring := []string{
		"0", "-9223372036854775808", "a", "d", "~a", "~~-1", "(a+b)", "(a-b)", "(a*b)", "(a<<1)", "(a<<0)", "(a<<-1)", "(a<<64)",
		"(a<<-9223372036854775808)", "(1<<2)", "((a<<1)<<2)", "~((a+b)<<63)", "(((a+b)*(c-d))<<5)", "((a<<3)*(b<<4))", "(1+((a<<3)-b))",
	}
	none := []string{
		"(a/b)", "(a/1)", "(1/0)", "(a==b)", "(a<b)", "(0<1)", "(a?b:c)", "(1?a:b)", "(0?a:a)", "~(a/b)", "(a+(b/c))", "((b/c)+a)", "(a*(b==c))",
		"(a<<b)", "(1<<a)", "(1<<b)", "(a<<~1)", "(a<<~~1)", "(a<<(1+1))", "(a<<(b*0))", "(a<<(b-b))", "(a<<(1<<2))", "((a<<b)<<1)", "((a<<1)<<b)",
		"(a+(a<<b))", "((a<<b)+1)", "((a<<b)*0)", "((a/b)<<1)", "(a-(1/0))", "~(a<b)", "(0*(a?b:c))", "((a<b)<<1)", "((a==b)?c:1)", "((a<<1)/2)",
	}
	for _, s := range ring {
		expectRing(t, ringTerm(t, s), true)
	}
	for _, s := range none {
		expectRing(t, ringTerm(t, s), false)
	}
	for _, n := range slices.Concat(wrapNumbers, shiftNumbers) {
		expectRing(t, joinedNodes(impl.OpShl, variable(2), num(n)), true)
		expectRing(t, joinedNodes(impl.OpShl, num(n), variable(2)), false)
		expectRing(t, joinedNodes(impl.OpShl, num(n), num(n)), true)
	}
	expectRing(t, negated(variable(0), impl.MaxNodes-1), true)
}

func TestIsRingOfAnyTerms(t *testing.T) {
	r := rand.New(rand.NewSource(41))
	seen := map[bool]int{}
	for range 20000 {
		term := randomTerm(r, 1+r.Intn(12))
		want := true
		for k, n := range term {
			switch n.Op {
			case impl.OpDiv, impl.OpEq, impl.OpLess, impl.OpIf:
				want = false
			case impl.OpShl:
				second := term[reckon(term, k-1, fourValues).start:k]
				want = want && len(second) == 1 && second[0].Op == impl.OpNum
			}
		}
		seen[want]++
		expectRing(t, term, want)
	}
	if seen[true] < 500 || seen[false] < 500 {
		t.Error("the terms are of one kind:", seen)
	}
}

func TestBadTermsAreNoSums(t *testing.T) {
	for why, bad := range badTerms() {
		if is, ok := impl.IsRing(bad); is || ok {
			t.Errorf("%s: IsRing = %v, %v, want the zero answer", why, is, ok)
		}
		p, ok := impl.PolyOf(bad)
		expectNoPoly(t, why+": PolyOf", p, ok)
		expectNotAsked(t, bad, variable(0))
		expectNotAsked(t, bad, bad)
	}
	whole := joinedNodes(impl.OpAdd, variable(0), variable(1))
	if is, ok := impl.IsRing(whole[:2]); is || ok {
		t.Error("what lies behind the length is read", is, ok)
	}
}

func TestPolyOf(t *testing.T) {
	expectPolyOf(t, "0")
	expectPolyOf(t, "5", mono(5, 0, 0, 0, 0))
	expectPolyOf(t, "-9223372036854775808", mono(math.MinInt64, 0, 0, 0, 0))
	expectPolyOf(t, "a", mono(1, 1, 0, 0, 0))
	expectPolyOf(t, "b", mono(1, 0, 1, 0, 0))
	expectPolyOf(t, "c", mono(1, 0, 0, 1, 0))
	expectPolyOf(t, "d", mono(1, 0, 0, 0, 1))
	expectPolyOf(t, "~a", mono(-1, 1, 0, 0, 0))
	expectPolyOf(t, "~~a", mono(1, 1, 0, 0, 0))
	expectPolyOf(t, "~0")
	expectPolyOf(t, "~-9223372036854775808", mono(math.MinInt64, 0, 0, 0, 0))
	expectPolyOf(t, "(a+1)", mono(1, 1, 0, 0, 0), mono(1, 0, 0, 0, 0))
	expectPolyOf(t, "(1+a)", mono(1, 1, 0, 0, 0), mono(1, 0, 0, 0, 0))
	expectPolyOf(t, "(a+a)", mono(2, 1, 0, 0, 0))
	expectPolyOf(t, "(a-b)", mono(1, 1, 0, 0, 0), mono(-1, 0, 1, 0, 0))
	expectPolyOf(t, "(b-a)", mono(-1, 1, 0, 0, 0), mono(1, 0, 1, 0, 0))
	expectPolyOf(t, "(2-5)", mono(-3, 0, 0, 0, 0))
	expectPolyOf(t, "(a*a)", mono(1, 2, 0, 0, 0))
	expectPolyOf(t, "(3*(a*~5))", mono(-15, 1, 0, 0, 0))
	expectPolyOf(t, "((a+1)*(a-1))", mono(1, 2, 0, 0, 0), mono(-1, 0, 0, 0, 0))
	expectPolyOf(t, "((a+b)*(a+b))", mono(1, 2, 0, 0, 0), mono(2, 1, 1, 0, 0), mono(1, 0, 2, 0, 0))
	expectPolyOf(t, "((a-b)*(a-b))", mono(1, 2, 0, 0, 0), mono(-2, 1, 1, 0, 0), mono(1, 0, 2, 0, 0))
	expectPolyOf(t, "((d*d)+(c+(b+a)))", mono(1, 1, 0, 0, 0), mono(1, 0, 1, 0, 0), mono(1, 0, 0, 1, 0), mono(1, 0, 0, 0, 2))
	expectPolyOf(t, "(7+((b*b)+((a*c)+(a*b))))", mono(1, 1, 1, 0, 0), mono(1, 1, 0, 1, 0), mono(1, 0, 2, 0, 0), mono(7, 0, 0, 0, 0))
}

func TestWhatComesToNoughtIsLeftOut(t *testing.T) {
	for _, s := range []string{
		"(a-a)", "(a+~a)", "(a*0)", "(0*a)", "((a+b)-(b+a))", "(((a+b)*c)-((c*a)+(c*b)))", "~(a-a)", "((a-a)*b)", "((a-a)<<5)", "(0<<7)", "(5-5)",
	} {
		expectPolyOf(t, s)
	}
	// The numbers wrap.
	expectPolyOf(t, "(-9223372036854775808+-9223372036854775808)")
	expectPolyOf(t, "(-9223372036854775808*2)")
	expectPolyOf(t, "(4294967296*4294967296)")
	expectPolyOf(t, "((a*4294967296)*(b*4294967296))")
	expectPolyOf(t, "((a<<63)<<1)")
	expectPolyOf(t, "((a<<32)<<32)")
	expectPolyOf(t, "((a<<63)+(a<<63))")
	expectPolyOf(t, "((a<<63)-(a<<-1))")
	expectPolyOf(t, "(9223372036854775807+1)", mono(math.MinInt64, 0, 0, 0, 0))
	expectPolyOf(t, "(((a<<63)+b)<<1)", mono(2, 0, 1, 0, 0))
	expectPolyOf(t, "(((a<<63)+b)*((a<<1)+b))", mono(math.MinInt64+2, 1, 1, 0, 0), mono(1, 0, 2, 0, 0))
}

func TestShiftsByANumber(t *testing.T) {
	expectPolyOf(t, "(a<<0)", mono(1, 1, 0, 0, 0))
	expectPolyOf(t, "(a<<1)", mono(2, 1, 0, 0, 0))
	expectPolyOf(t, "(a<<63)", mono(math.MinInt64, 1, 0, 0, 0))
	expectPolyOf(t, "(a<<64)", mono(1, 1, 0, 0, 0))
	expectPolyOf(t, "(a<<65)", mono(2, 1, 0, 0, 0))
	expectPolyOf(t, "(a<<-1)", mono(math.MinInt64, 1, 0, 0, 0))
	expectPolyOf(t, "(a<<-62)", mono(4, 1, 0, 0, 0))
	expectPolyOf(t, "(a<<-64)", mono(1, 1, 0, 0, 0))
	expectPolyOf(t, "(a<<-65)", mono(math.MinInt64, 1, 0, 0, 0))
	expectPolyOf(t, "(a<<-9223372036854775808)", mono(1, 1, 0, 0, 0))
	expectPolyOf(t, "(a<<9223372036854775807)", mono(math.MinInt64, 1, 0, 0, 0))
	expectPolyOf(t, "(3<<2)", mono(12, 0, 0, 0, 0))
	expectPolyOf(t, "(2<<3)", mono(16, 0, 0, 0, 0))
	expectPolyOf(t, "((a+~b)<<3)", mono(8, 1, 0, 0, 0), mono(-8, 0, 1, 0, 0))
	for _, n := range slices.Concat(wrapNumbers, shiftNumbers) {
		term := joinedNodes(impl.OpShl, ringTerm(t, "((a*3)-5)"), num(n))
		by := new(big.Int).Mod(big.NewInt(n), big.NewInt(64)).Uint64()
		first, last := wrapped(new(big.Int).Lsh(big.NewInt(3), uint(by))), wrapped(new(big.Int).Lsh(big.NewInt(-5), uint(by)))
		p, ok := impl.PolyOf(term)
		expectPoly(t, "PolyOf "+written(term), p, ok, []impl.Mono{mono(first, 1, 0, 0, 0), mono(last, 0, 0, 0, 0)})
	}
}

func TestPolyOfAsItIsMultipliedOutFromTheRoot(t *testing.T) {
	r := rand.New(rand.NewSource(42))
	good, bad, none := 0, 0, 0
	for k := range 8000 {
		term := randomRing(r, 1+r.Intn(impl.MaxNodes))
		if k%4 == 0 {
			term = randomWide(r)
		}
		want, is := wantPoly(term)
		p, ok := impl.PolyOf(term)
		expectPolyOrNone(t, "PolyOf "+written(term), p, ok, want, is)
		switch {
		case !is:
			bad++
		case len(want) == 0:
			none++
		default:
			good++
		}
	}
	if good < 2000 || bad < 500 || none < 200 {
		t.Error("the terms are of one kind:", good, bad, none)
	}
}

func TestASumOfProductsComesToWhatItsTermDoes(t *testing.T) {
	r := rand.New(rand.NewSource(43))
	for k := range 8000 {
		term := randomRing(r, 1+r.Intn(impl.MaxNodes))
		if k%4 == 0 {
			term = randomWide(r)
		}
		p, ok := impl.PolyOf(term)
		if !ok {
			continue
		}
		if !impl.GoodPoly(p) {
			t.Errorf("PolyOf(%s) = %v is not good", written(term), p)
		}
		for range 5 {
			env := randomEnv(r)
			n, _ := impl.EvalPoly(p, env)
			expectEval(t, term, env, n, false)
		}
	}
}

// fortyProducts comes to MaxMonos products: 8 in a, b and c times 5 in d.
const fortyProducts = "((((1+a)*(1+b))*(1+c))*(1+(d*(1+(d*(1+(d*(1+d))))))))"

func TestPolyOfMaxMonosProducts(t *testing.T) {
	p, ok := impl.PolyOf(ringTerm(t, fortyProducts))
	if !ok || len(p) != impl.MaxMonos || !impl.GoodPoly(p) {
		t.Fatal("PolyOf MaxMonos products", p, ok)
	}
	for _, s := range []string{"(" + fortyProducts + "+(a*a))", "((a*a)+" + fortyProducts + ")", "(" + fortyProducts + "-(b*b))", "((c*c)-" + fortyProducts + ")"} {
		expectNoPolyOf(t, s)
	}
	for s, count := range map[string]int{
		"(" + fortyProducts + "+a)":   impl.MaxMonos,
		"(" + fortyProducts + "-a)":   impl.MaxMonos - 1,
		"(1-" + fortyProducts + ")":   impl.MaxMonos - 1,
		"~" + fortyProducts:           impl.MaxMonos,
		"(" + fortyProducts + "*a)":   impl.MaxMonos,
		"(" + fortyProducts + "<<63)": impl.MaxMonos,
		"(" + fortyProducts + "*0)":   0,
	} {
		if p, ok := impl.PolyOf(ringTerm(t, s)); len(p) != count || !ok {
			t.Errorf("PolyOf %s has %d products, %v, want %d, true", s, len(p), ok, count)
		}
	}
	expectNoPolyOf(t, "("+fortyProducts+"*(1+a))")
}

func TestOnlyAPartIsTooGreat(t *testing.T) {
	// The whole is 0, or small, but a part of it has more than MaxMonos products.
	large := "(" + fortyProducts + "+(a*a))"
	for _, s := range []string{
		"(" + large + "*0)", "(0*" + large + ")", "(" + large + "-(a*a))", "(" + large + "<<1)", "~" + large, "~~" + large,
	} {
		expectNoPolyOf(t, s)
		expectNotAsked(t, ringTerm(t, s), num(0))
	}
	// Or a power above MaxPower.
	high := "((((a*a)*a)*((a*a)*a))*(((a*a)*a)*a))"
	nine := "((((a*a)*a)*((a*a)*a))*((a*a)*a))"
	expectPolyOf(t, nine, mono(1, 9, 0, 0, 0))
	expectPolyOf(t, "("+nine+"*b)", mono(1, 9, 1, 0, 0))
	expectPolyOf(t, "(a-("+nine+"*~d))", mono(1, 9, 0, 0, 1), mono(1, 1, 0, 0, 0))
	expectNoPolyOf(t, high)
	for _, s := range []string{
		"(" + high + "*0)", "(0*" + high + ")", "(" + high + "<<63)", "~" + high, "(a+" + high + ")", "(" + high + "-b)",
	} {
		expectNoPolyOf(t, s)
		expectNotAsked(t, ringTerm(t, s), num(0))
	}
	expectNoPolyOf(t, "("+nine+"*a)")
	expectNoPolyOf(t, "(a*"+nine+")")
	expectNoPolyOf(t, "("+nine+"*(1+a))")
	expectNoPolyOf(t, "(("+nine+"*a)-("+nine+"*a))")
}

func TestWhatFallsOutIsNotAskedForItsPower(t *testing.T) {
	// The tenth power's N wraps to 0: it is left out, and what is left is good.
	nine := "((((a*a)*a)*((a*a)*a))*((a*a)*a))"
	expectPolyOf(t, "(("+nine+"<<32)*(a<<32))")
	expectPolyOf(t, "(("+nine+"<<63)*((a<<1)+b))", mono(math.MinInt64, 9, 1, 0, 0))
	expectNoPolyOf(t, "(("+nine+"<<62)*((a<<1)+b))")
	p, ok := impl.MulPoly([]impl.Mono{mono(1<<32, 9, 9, 9, 9)}, []impl.Mono{mono(1<<32, 9, 9, 9, 9)})
	expectPoly(t, "MulPoly to nothing", p, ok, nil)
	p, ok = impl.MulPoly([]impl.Mono{mono(1<<32, 9, 9, 9, 9), mono(1, 0, 0, 0, 0)}, []impl.Mono{mono(1<<32, 0, 0, 0, 1), mono(3, 0, 0, 0, 0)})
	expectPoly(t, "MulPoly without what falls out", p, ok, []impl.Mono{mono(3<<32, 9, 9, 9, 9), mono(1<<32, 0, 0, 0, 1), mono(3, 0, 0, 0, 0)})
	p, ok = impl.MulPoly([]impl.Mono{mono(1<<31, 9, 9, 9, 9)}, []impl.Mono{mono(1<<32, 0, 0, 0, 1)})
	expectNoPoly(t, "MulPoly to the least number by a tenth power", p, ok)
	// Two products meet in a tenth power, and their sum wraps to 0.
	half := []impl.Mono{mono(1<<62, 9, 0, 0, 0), mono(1<<62, 8, 0, 0, 0)}
	p, ok = impl.MulPoly(half, []impl.Mono{mono(4, 2, 0, 0, 0), mono(8, 1, 0, 0, 0), mono(1, 0, 0, 0, 0)})
	expectPoly(t, "MulPoly where the high ones fall out", p, ok, half)
	p, ok = impl.MulPoly([]impl.Mono{mono(2, 9, 0, 0, 0), mono(math.MinInt64, 8, 0, 0, 0)}, []impl.Mono{mono(math.MinInt64, 2, 0, 0, 0), mono(1<<62, 1, 0, 0, 0)})
	expectNoPoly(t, "MulPoly where one high one stays", p, ok)
	p, ok = impl.MulPoly([]impl.Mono{mono(1<<63-1, 9, 0, 0, 0), mono(1<<62, 8, 0, 0, 0)}, []impl.Mono{mono(2, 2, 0, 0, 0), mono(math.MinInt64, 1, 0, 0, 0)})
	expectNoPoly(t, "MulPoly where one high one stays", p, ok)
}

func TestAddPolyAndMulPolyAsTheModelDoes(t *testing.T) {
	r := rand.New(rand.NewSource(44))
	good, bad := 0, 0
	for _, shape := range []struct{ products, high, rounds int }{{3, 1, 4000}, {6, 2, 4000}, {9, 4, 2000}, {12, 9, 1000}, {40, 3, 500}, {30, 1, 2000}} {
		for range shape.rounds {
			p, q := randomPoly(r, shape.products, shape.high), randomPoly(r, shape.products, shape.high)
			want, is := modelSum(modelOf(p), modelOf(q), 1).told()
			sum, ok := impl.AddPoly(p, q)
			expectPolyOrNone(t, "AddPoly", sum, ok, want, is)
			sum, ok = impl.AddPoly(q, p)
			expectPolyOrNone(t, "AddPoly turned", sum, ok, want, is)
			want, is = modelProduct(modelOf(p), modelOf(q)).told()
			product, ok := impl.MulPoly(p, q)
			expectPolyOrNone(t, "MulPoly", product, ok, want, is)
			product, ok = impl.MulPoly(q, p)
			expectPolyOrNone(t, "MulPoly turned", product, ok, want, is)
			if is {
				good++
			} else {
				bad++
			}
		}
	}
	if good < 1000 || bad < 1000 {
		t.Error("the sums are of one kind:", good, bad)
	}
}

func TestAddPolyAndMulPolyAtTheEdges(t *testing.T) {
	one, p := []impl.Mono{mono(1, 0, 0, 0, 0)}, []impl.Mono{mono(3, 9, 0, 2, 0), mono(-1, 0, 1, 0, 9)}
	for _, none := range [][]impl.Mono{nil, {}} {
		for _, x := range [][]impl.Mono{nil, one, p, manyProducts(impl.MaxMonos, -7)} {
			got, ok := impl.AddPoly(x, none)
			expectPoly(t, "AddPoly of 0", got, ok, x)
			got, ok = impl.AddPoly(none, x)
			expectPoly(t, "AddPoly to 0", got, ok, x)
			got, ok = impl.MulPoly(x, none)
			expectPoly(t, "MulPoly by 0", got, ok, nil)
			got, ok = impl.MulPoly(none, x)
			expectPoly(t, "MulPoly of 0", got, ok, nil)
			got, ok = impl.MulPoly(one, x)
			expectPoly(t, "MulPoly of 1", got, ok, x)
			got, ok = impl.MulPoly(x, one)
			expectPoly(t, "MulPoly by 1", got, ok, x)
		}
	}
	minus := []impl.Mono{mono(-3, 9, 0, 2, 0), mono(1, 0, 1, 0, 9)}
	got, ok := impl.AddPoly(p, minus)
	expectPoly(t, "AddPoly to nothing", got, ok, nil)
	got, ok = impl.AddPoly([]impl.Mono{mono(math.MinInt64, 1, 0, 0, 0)}, []impl.Mono{mono(math.MinInt64, 1, 0, 0, 0), mono(1, 0, 0, 0, 0)})
	expectPoly(t, "AddPoly that wraps to nothing", got, ok, one)
	got, ok = impl.AddPoly([]impl.Mono{mono(math.MaxInt64, 1, 0, 0, 0)}, []impl.Mono{mono(1, 1, 0, 0, 0)})
	expectPoly(t, "AddPoly that wraps", got, ok, []impl.Mono{mono(math.MinInt64, 1, 0, 0, 0)})
	got, ok = impl.MulPoly([]impl.Mono{mono(1, 9, 0, 0, 0)}, []impl.Mono{mono(1, 0, 9, 9, 9)})
	expectPoly(t, "MulPoly to the highest powers", got, ok, []impl.Mono{mono(1, 9, 9, 9, 9)})
	for v := range impl.MaxVars {
		powers := make([]int, impl.MaxVars)
		powers[v] = 1
		by := []impl.Mono{{Powers: powers, N: 1}}
		got, ok = impl.MulPoly([]impl.Mono{mono(1, 8, 8, 8, 8)}, by)
		want := mono(1, 8, 8, 8, 8)
		want.Powers[v] = 9
		expectPoly(t, "MulPoly to MaxPower", got, ok, []impl.Mono{want})
		got, ok = impl.MulPoly(got, by)
		expectNoPoly(t, "MulPoly to a power above MaxPower", got, ok)
	}
}

func TestSumsOfMaxMonosProducts(t *testing.T) {
	most := manyProducts(impl.MaxMonos, 5)
	fewer, other := most[:impl.MaxMonos-1], []impl.Mono{mono(1, 9, 9, 9, 9)}
	got, ok := impl.AddPoly(fewer, other)
	if !ok || len(got) != impl.MaxMonos {
		t.Error("AddPoly to MaxMonos products", got, ok)
	}
	got, ok = impl.AddPoly(most, other)
	expectNoPoly(t, "AddPoly to one product too many", got, ok)
	got, ok = impl.AddPoly(other, most)
	expectNoPoly(t, "AddPoly to one product too many", got, ok)
	got, ok = impl.AddPoly(most, most)
	expectPoly(t, "AddPoly of the same", got, ok, manyProducts(impl.MaxMonos, 10))
	// As many fall out as come.
	got, ok = impl.AddPoly(most, []impl.Mono{mono(1, 9, 9, 9, 9), mono(-5, 0, 0, 0, 0)})
	expectPoly(t, "AddPoly of one that goes and one that comes", got, ok, slices.Concat(other, fewer))
	got, ok = impl.AddPoly(most, manyProducts(impl.MaxMonos, -5))
	expectPoly(t, "AddPoly of the negative", got, ok, nil)

	eight := []impl.Mono{}
	for k := 7; k >= 0; k-- {
		eight = append(eight, mono(1, k, 0, 0, 0))
	}
	for five, want := range map[int]bool{4: true, 5: true, 6: false, 8: false} {
		by := []impl.Mono{}
		for k := five - 1; k >= 0; k-- {
			by = append(by, mono(1, 0, k, 0, 0))
		}
		got, ok = impl.MulPoly(eight, by)
		if ok != want || ok && len(got) != 8*five || !ok && len(got) != 0 {
			t.Errorf("MulPoly of 8 by %d products = %v, %v", five, got, ok)
		}
	}
	// 1600 pairs, of which none stays.
	got, ok = impl.MulPoly(manyProducts(impl.MaxMonos, 1<<32), manyProducts(impl.MaxMonos, 1<<32))
	expectPoly(t, "MulPoly of many to nothing", got, ok, nil)
	// 1600 pairs, of which just MaxMonos stay, since all but the last one are by 2 to the 64.
	by := manyProducts(impl.MaxMonos, 1<<32)
	by[impl.MaxMonos-1].N = 1
	got, ok = impl.MulPoly(manyProducts(impl.MaxMonos, 1<<32), by)
	expectPoly(t, "MulPoly of many to MaxMonos", got, ok, manyProducts(impl.MaxMonos, 1<<32))
}

func TestBadPolysHaveTheZeroAnswer(t *testing.T) {
	good := []impl.Mono{mono(1, 0, 0, 0, 0)}
	for why, bad := range badPolys() {
		for _, other := range [][]impl.Mono{good, nil, bad} {
			p, ok := impl.AddPoly(bad, other)
			expectNoPoly(t, why+": AddPoly", p, ok)
			p, ok = impl.AddPoly(other, bad)
			expectNoPoly(t, why+": AddPoly of it", p, ok)
			p, ok = impl.MulPoly(bad, other)
			expectNoPoly(t, why+": MulPoly", p, ok)
			p, ok = impl.MulPoly(other, bad)
			expectNoPoly(t, why+": MulPoly by it", p, ok)
		}
		if n, ok := impl.EvalPoly(bad, fourValues); n != 0 || ok {
			t.Errorf("%s: EvalPoly = %d, %v, want the zero answer", why, n, ok)
		}
		term, ok := impl.TermOf(bad)
		expectNoTerm(t, why+": TermOf", term, ok)
	}
}

func TestEvalPoly(t *testing.T) {
	r := rand.New(rand.NewSource(45))
	for range 5000 {
		p, env := randomPoly(r, 10, impl.MaxPower), randomEnv(r)
		want := new(big.Int)
		for _, m := range p {
			product := big.NewInt(m.N)
			for v, power := range m.Powers {
				product.Mul(product, new(big.Int).Exp(big.NewInt(env[v]), big.NewInt(int64(power)), nil))
			}
			want.Add(want, product)
		}
		if n, ok := impl.EvalPoly(p, env); n != wrapped(want) || !ok {
			t.Errorf("EvalPoly(%v, %v) = %d, %v, want %d, true", p, env, n, ok, wrapped(want))
		}
	}
}

func TestEvalPolyAtTheEdges(t *testing.T) {
	for _, x := range []struct {
		p    []impl.Mono
		env  []int64
		want int64
	}{
		{nil, []int64{1, 2, 3, 4}, 0},
		{[]impl.Mono{mono(7, 0, 0, 0, 0)}, []int64{0, 0, 0, 0}, 7},
		{[]impl.Mono{mono(1, 1, 0, 0, 0)}, []int64{5, 6, 7, 8}, 5},
		{[]impl.Mono{mono(1, 0, 0, 0, 1)}, []int64{5, 6, 7, 8}, 8},
		{[]impl.Mono{mono(2, 1, 2, 0, 0), mono(-1, 0, 0, 1, 0)}, []int64{3, 5, 11, 0}, 139},
		{[]impl.Mono{mono(1, 9, 0, 0, 0)}, []int64{128, 0, 0, 0}, math.MinInt64},
		{[]impl.Mono{mono(2, 9, 0, 0, 0)}, []int64{128, 0, 0, 0}, 0},
		{[]impl.Mono{mono(1, 9, 9, 9, 9)}, []int64{-1, -1, -1, -1}, 1},
		{[]impl.Mono{mono(1, 9, 9, 9, 0)}, []int64{-1, -1, -1, 0}, -1},
		{[]impl.Mono{mono(1, 1, 0, 0, 0), mono(1, 0, 0, 0, 0)}, []int64{math.MaxInt64, 0, 0, 0}, math.MinInt64},
		{[]impl.Mono{mono(math.MinInt64, 1, 0, 0, 0)}, []int64{-1, 0, 0, 0}, math.MinInt64},
		{[]impl.Mono{mono(math.MinInt64, 2, 0, 0, 0), mono(math.MinInt64, 1, 0, 0, 0)}, []int64{77, 0, 0, 0}, 0},
	} {
		if n, ok := impl.EvalPoly(x.p, x.env); n != x.want || !ok {
			t.Errorf("EvalPoly(%v, %v) = %d, %v, want %d, true", x.p, x.env, n, ok, x.want)
		}
	}
	values := []int64{1, 2, 3, 4, 5, 6}
	for n := range len(values) + 1 {
		for _, p := range [][]impl.Mono{nil, {mono(7, 0, 0, 0, 0)}, {mono(1, 1, 1, 1, 1)}} {
			if got, ok := impl.EvalPoly(p, values[:n]); n != impl.MaxVars && (got != 0 || ok) {
				t.Errorf("EvalPoly(%v) of %d values = %d, %v, want the zero answer", p, n, got, ok)
			}
		}
	}
	if got, ok := impl.EvalPoly([]impl.Mono{mono(7, 0, 0, 0, 0)}, nil); got != 0 || ok {
		t.Errorf("EvalPoly of no values = %d, %v", got, ok)
	}
}

func expectTermOf(t *testing.T, want string, p ...impl.Mono) {
	t.Helper()
	term, ok := impl.TermOf(p)
	expectTerm(t, "TermOf", term, ok, ringTerm(t, want))
}

func TestTermOf(t *testing.T) {
	expectTermOf(t, "0")
	expectTermOf(t, "1", mono(1, 0, 0, 0, 0))
	expectTermOf(t, "-9223372036854775808", mono(math.MinInt64, 0, 0, 0, 0))
	expectTermOf(t, "(1*a)", mono(1, 1, 0, 0, 0))
	expectTermOf(t, "((-3*a)*a)", mono(-3, 2, 0, 0, 0))
	expectTermOf(t, "((((5*a)*c)*c)*d)", mono(5, 1, 0, 2, 1))
	expectTermOf(t, "((((1*a)*b)*c)*d)", mono(1, 1, 1, 1, 1))
	expectTermOf(t, "(((1*a)*a)+-1)", mono(1, 2, 0, 0, 0), mono(-1, 0, 0, 0, 0))
	expectTermOf(t, "(((2*a)+(3*b))+4)", mono(2, 1, 0, 0, 0), mono(3, 0, 1, 0, 0), mono(4, 0, 0, 0, 0))
	expectTermOf(t, "((((1*a)+((2*b)*b))+(3*d))+4)", mono(1, 1, 0, 0, 0), mono(2, 0, 2, 0, 0), mono(3, 0, 0, 0, 1), mono(4, 0, 0, 0, 0))
	if term, ok := impl.TermOf([]impl.Mono{}); !ok || !slices.Equal(term, num(0)) {
		t.Error("TermOf the empty one", term, ok)
	}
}

func TestTermOfMoreThanMaxNodes(t *testing.T) {
	// A product has one node and two for each power, and each further one an OpAdd: their number is odd.
	for _, x := range []struct {
		nodes int
		p     []impl.Mono
	}{
		{37, []impl.Mono{mono(1, 9, 9, 0, 0)}},
		{39, []impl.Mono{mono(1, 9, 9, 1, 0)}},
		{39, []impl.Mono{mono(1, 1, 9, 0, 9)}},
		{41, []impl.Mono{mono(1, 9, 9, 2, 0)}},
		{73, []impl.Mono{mono(1, 9, 9, 9, 9)}},
		{39, []impl.Mono{mono(1, 9, 9, 0, 0), mono(1, 0, 0, 0, 0)}},
		{41, []impl.Mono{mono(1, 9, 9, 0, 0), mono(1, 0, 0, 0, 1)}},
		{41, []impl.Mono{mono(1, 9, 8, 0, 0), mono(1, 0, 0, 0, 1), mono(1, 0, 0, 0, 0)}},
		{41, manyProducts(6, 1)},
		{29, manyProducts(5, 1)},
	} {
		term, ok := impl.TermOf(x.p)
		if x.nodes > impl.MaxNodes {
			expectNoTerm(t, "TermOf too many nodes", term, ok)
		} else if !ok || len(term) != x.nodes {
			t.Errorf("TermOf(%v) has %d nodes, %v, want %d, true", x.p, len(term), ok, x.nodes)
		}
	}
	term, ok := impl.TermOf(manyProducts(impl.MaxMonos, 1))
	expectNoTerm(t, "TermOf MaxMonos products", term, ok)
}

func TestASumOfProductsIsReadBackFromItsTerm(t *testing.T) {
	r := rand.New(rand.NewSource(46))
	good, bad := 0, 0
	for range 10000 {
		p, env := randomPoly(r, 7, 1+r.Intn(4)), randomEnv(r)
		nodes := max(1, 2*len(p)-1)
		for _, m := range p {
			for _, power := range m.Powers {
				nodes += 2 * power
			}
		}
		term, ok := impl.TermOf(p)
		if nodes > impl.MaxNodes {
			bad++
			expectNoTerm(t, "TermOf", term, ok)
			continue
		}
		good++
		if !ok || len(term) != nodes || !impl.GoodTerm(term) {
			t.Errorf("TermOf(%v) = %v, %v, want %d nodes, true", p, term, ok, nodes)
			continue
		}
		back, ok := impl.PolyOf(term)
		expectPoly(t, "PolyOf of TermOf", back, ok, p)
		n, _ := impl.EvalPoly(p, env)
		expectEval(t, term, env, n, false)
	}
	if good < 1000 || bad < 1000 {
		t.Error("the sums are of one kind:", good, bad)
	}
}

func expectSameRing(t *testing.T, s, u string, want bool) {
	t.Helper()
	for _, pair := range [][2]string{{s, u}, {u, s}} {
		if is, ok := impl.SameRing(ringTerm(t, pair[0]), ringTerm(t, pair[1])); is != want || !ok {
			t.Errorf("SameRing(%s, %s) = %v, %v, want %v, true", pair[0], pair[1], is, ok, want)
		}
	}
}

func TestSameRing(t *testing.T) {
	for s, u := range map[string]string{
		"a": "a", "(a+b)": "(b+a)", "(a*b)": "(b*a)", "((a+b)+c)": "(a+(b+c))", "((a*b)*c)": "(a*(b*c))", "(a+0)": "a", "(a*1)": "a",
		"(a-b)": "(a+~b)", "~~a": "a", "(a*2)": "(a<<1)", "(a+a)": "(a*2)", "((a*c)+(b*c))": "((a+b)*c)", "(a*-1)": "~a", "(a-0)": "a",
		"0": "(b-b)", "((a+b)*(a-b))": "((a*a)-(b*b))", "(a<<63)": "(a*-9223372036854775808)", "(a<<64)": "(a<<0)", "(a<<-1)": "(~a<<63)",
		"((a<<32)<<32)": "0", "(-9223372036854775808-1)": "9223372036854775807",
	} {
		expectSameRing(t, s, u, true)
	}
	for s, u := range map[string]string{
		"a": "b", "0": "1", "(a-b)": "(b-a)", "(a*a)": "a", "((a+b)*c)": "((a*c)+b)", "(a<<1)": "(a<<2)", "(a+1)": "a", "(a*b)": "(a+b)",
		"~a": "a", "c": "d", "(a*(a*b))": "(a*(b*b))", "(a*3)": "(a*4)", "5": "a", "(a+b)": "(a+(b*b))", "((a+b)+1)": "(a+b)", "1": "-1",
		// At all values the same, but not one sum of products.
		"((a*(a-1))<<63)": "0", "((a*a)<<63)": "(a<<63)",
	} {
		expectSameRing(t, s, u, false)
	}
}

func TestTermsOfOneSumComeToTheSame(t *testing.T) {
	r := rand.New(rand.NewSource(47))
	same, unlike, none := 0, 0, 0
	for range 30000 {
		a, b := randomRing(r, 1+r.Intn(7)), randomRing(r, 1+r.Intn(7))
		if r.Intn(20) == 0 {
			a = randomWide(r)
		}
		if p, ok := impl.PolyOf(a); ok && r.Intn(3) == 0 {
			if term, ok := impl.TermOf(p); ok {
				b = term
			}
		}
		p, first := wantPoly(a)
		q, second := wantPoly(b)
		if !first || !second {
			none++
			expectNotAsked(t, a, b)
			continue
		}
		is, ok := impl.SameRing(a, b)
		if is != samePoly(p, q) || !ok {
			t.Errorf("SameRing(%s, %s) = %v, %v, want %v, true", written(a), written(b), is, ok, samePoly(p, q))
		}
		if !is {
			unlike++
			continue
		}
		same++
		for range 10 {
			env := randomEnv(r)
			n, _, _ := impl.EvalTerm(a, env)
			expectEval(t, b, env, n, false)
		}
	}
	if same < 1000 || unlike < 1000 || none < 100 {
		t.Error("the terms are of one kind:", same, unlike, none)
	}
}

// polyWithTail gives a sum and its Powers more memory than their lengths, filled, so that a write or a read behind them shows.
func polyWithTail(p []impl.Mono) []impl.Mono {
	whole := make([]impl.Mono, len(p)+3)
	for k := range whole {
		whole[k] = mono(-77, 33, -33)
		if k < len(p) {
			whole[k] = impl.Mono{Powers: slices.Concat(p[k].Powers, []int{44, -44, 44})[:impl.MaxVars], N: p[k].N}
		}
	}
	return whole[:len(p)]
}

func wholeMemory(p []impl.Mono) []impl.Mono {
	var kept []impl.Mono
	for _, m := range p[:cap(p)] {
		kept = append(kept, impl.Mono{Powers: slices.Clone(m.Powers[:cap(m.Powers)]), N: m.N})
	}
	return kept
}

func spoilPoly(p []impl.Mono) {
	p = p[:cap(p)]
	for k := range p {
		powers := p[k].Powers[:cap(p[k].Powers)]
		for v := range powers {
			powers[v] = -99
		}
		p[k] = impl.Mono{N: -99}
	}
}

func TestSumsThatAreHandedInStayAsTheyAre(t *testing.T) {
	r := rand.New(rand.NewSource(48))
	for range 2000 {
		p, q := polyWithTail(randomPoly(r, 6, 4)), polyWithTail(randomPoly(r, 6, 4))
		keptP, keptQ := wholeMemory(p), wholeMemory(q)
		env := slices.Clone(fourValues)
		impl.GoodPoly(p)
		impl.EvalPoly(p, env)
		term, _ := impl.TermOf(p)
		spoil(term)
		one := []impl.Mono{mono(1, 0, 0, 0, 0)}
		for _, pair := range [][2][]impl.Mono{{p, q}, {q, p}, {p, p}, {p, nil}, {nil, p}, {p, one}, {one, p}} {
			sum, _ := impl.AddPoly(pair[0], pair[1])
			product, _ := impl.MulPoly(pair[0], pair[1])
			again, _ := impl.AddPoly(pair[0], pair[1])
			kept := wholeMemory(again)
			spoilPoly(sum)
			spoilPoly(product)
			if !samePoly(wholeMemory(again), kept) {
				t.Fatal("two answers share memory")
			}
			if !samePoly(wholeMemory(one), []impl.Mono{mono(1, 0, 0, 0, 0)}) {
				t.Fatal("a sum was changed, or is shared with an answer", one)
			}
		}
		if !samePoly(wholeMemory(p), keptP) || !samePoly(wholeMemory(q), keptQ) {
			t.Fatalf("a sum was changed, or is shared with an answer: %v and %v, were %v and %v", p, q, keptP, keptQ)
		}
		if !slices.Equal(env, fourValues) {
			t.Fatal("the values were changed", env)
		}
	}
}

func TestBadSumsThatAreHandedInStayAsTheyAre(t *testing.T) {
	again := badPolys()
	for why, bad := range badPolys() {
		impl.GoodPoly(bad)
		impl.AddPoly(bad, nil)
		impl.AddPoly(nil, bad)
		impl.MulPoly(bad, bad)
		impl.EvalPoly(bad, fourValues)
		impl.TermOf(bad)
		if !samePoly(bad, again[why]) {
			t.Errorf("%s: the sum was changed: %v, was %v", why, bad, again[why])
		}
	}
}

func TestTermsHandedInForSumsStayAsTheyAre(t *testing.T) {
	r := rand.New(rand.NewSource(49))
	for range 1000 {
		a, b := withTail(randomRing(r, 1+r.Intn(20))), withTail(randomTerm(r, 1+r.Intn(20)))
		keptA, keptB := slices.Clone(a[:cap(a)]), slices.Clone(b[:cap(b)])
		for _, term := range [][]impl.Node{a, b} {
			impl.IsRing(term)
			p, _ := impl.PolyOf(term)
			spoilPoly(p)
		}
		impl.SameRing(a, b)
		impl.SameRing(b, a)
		impl.SameRing(a, a)
		if !slices.Equal(a[:cap(a)], keptA) || !slices.Equal(b[:cap(b)], keptB) {
			t.Fatal("a term was changed", a, b)
		}
	}
}

func TestNoTwoListsOfASumShareMemory(t *testing.T) {
	p, _ := impl.PolyOf(ringTerm(t, fortyProducts))
	twice, _ := impl.AddPoly(p, p)
	shifted, _ := impl.MulPoly(p, []impl.Mono{mono(1, 0, 0, 0, 1)})
	for _, answer := range [][]impl.Mono{p, twice, shifted} {
		if len(answer) != impl.MaxMonos {
			t.Fatal("not all products are there", answer)
		}
		for k := range answer {
			powers := answer[k].Powers[:cap(answer[k].Powers)]
			for v := range powers {
				powers[v] = k
			}
		}
		for k, m := range answer {
			for _, power := range m.Powers {
				if power != k {
					t.Fatal("two products share their Powers", k, m)
				}
			}
		}
	}
}

func TestTheSameArgumentsHaveTheSameAnswer(t *testing.T) {
	p, _ := impl.PolyOf(ringTerm(t, fortyProducts))
	for range 200 {
		again, ok := impl.PolyOf(ringTerm(t, fortyProducts))
		expectPoly(t, "PolyOf again", again, ok, p)
	}
}
