package tests

import (
	"maps"
	"math"
	"math/big"
	"math/rand"
	"slices"
	"testing"

	"loop.example/g00694/impl"
)

func inst(op int, args ...int) impl.Inst { return impl.Inst{Op: op, Args: args} }

func numInst(n int64) impl.Inst { return impl.Inst{Op: impl.OpNum, N: n} }

func jump(to int, args ...int) impl.Jump { return impl.Jump{To: to, Args: args} }

func returning(value, params int, insts ...impl.Inst) impl.Block {
	return impl.Block{Params: params, Insts: insts, End: impl.EndReturn, Value: value}
}

func jumping(by impl.Jump, params int, insts ...impl.Inst) impl.Block {
	return impl.Block{Params: params, Insts: insts, End: impl.EndJump, Jumps: []impl.Jump{by}}
}

func branching(value int, first, second impl.Jump, params int, insts ...impl.Inst) impl.Block {
	return impl.Block{Params: params, Insts: insts, End: impl.EndBranch, Value: value, Jumps: []impl.Jump{first, second}}
}

func funcOf(params int, blocks ...impl.Block) impl.Func {
	return impl.Func{Params: params, Blocks: blocks}
}

// argsTold are how many args the ops of instructions have, as the document tells them.
var argsTold = map[int]int{
	impl.OpNum: 0, impl.OpNeg: 1, impl.OpAdd: 2, impl.OpSub: 2, impl.OpMul: 2, impl.OpShl: 2, impl.OpDiv: 2,
	impl.OpEq: 2, impl.OpLess: 2, impl.OpIf: 3, impl.OpLoad: 1, impl.OpStore: 2,
}

var jumpsTold = map[int]int{impl.EndReturn: 0, impl.EndJump: 1, impl.EndBranch: 2}

// A made is what a value is: a parameter of the function, of a block, or an instruction.
type made struct {
	block, at int
	is        string
}

const (
	ofFunc  = "the function's"
	ofBlock = "the block's"
	anInst  = "an instruction"
)

// listOfValues has what each value is, at its number.
func listOfValues(f impl.Func) []made {
	var all []made
	for k := range f.Params {
		all = append(all, made{-1, k, ofFunc})
	}
	for k, b := range f.Blocks {
		for at := range b.Params {
			all = append(all, made{k, at, ofBlock})
		}
		for at := range b.Insts {
			all = append(all, made{k, at, anInst})
		}
	}
	return all
}

func goodFuncByTheWords(f impl.Func) bool {
	if len(f.Blocks) < 1 || len(f.Blocks) > 8 || f.Params < 0 || f.Params > 4 || f.Blocks[0].Params != 0 {
		return false
	}
	for _, b := range f.Blocks {
		if b.Params < 0 || b.Params > 4 {
			return false
		}
	}
	count := len(listOfValues(f))
	var used []int
	for _, b := range f.Blocks {
		for _, in := range b.Insts {
			args, is := argsTold[in.Op]
			if !is || len(in.Args) != args || in.N != 0 && in.Op != impl.OpNum {
				return false
			}
			used = append(used, in.Args...)
		}
		jumps, is := jumpsTold[b.End]
		if !is || len(b.Jumps) != jumps || b.End == impl.EndJump && b.Value != 0 {
			return false
		}
		if b.End != impl.EndJump {
			used = append(used, b.Value)
		}
		for _, j := range b.Jumps {
			if j.To < 0 || j.To >= len(f.Blocks) || len(j.Args) != f.Blocks[j.To].Params {
				return false
			}
			used = append(used, j.Args...)
		}
	}
	for _, k := range used {
		if k < 0 || k >= count {
			return false
		}
	}
	return count <= 80
}

// opByTheWords reckons without Go's own wrap-round.
func opByTheWords(op int, args []int64) (int64, bool) {
	var n []*big.Int
	for _, a := range args {
		n = append(n, big.NewInt(a))
	}
	truth := map[bool]int64{true: 1, false: 0}
	switch op {
	case impl.OpNeg:
		return wrapped(n[0].Neg(n[0])), false
	case impl.OpAdd:
		return wrapped(n[0].Add(n[0], n[1])), false
	case impl.OpSub:
		return wrapped(n[0].Sub(n[0], n[1])), false
	case impl.OpMul:
		return wrapped(n[0].Mul(n[0], n[1])), false
	case impl.OpShl:
		return wrapped(n[0].Lsh(n[0], uint(n[1].Mod(n[1], big.NewInt(64)).Uint64()))), false
	case impl.OpDiv:
		if args[1] == 0 {
			return 0, true
		}
		return wrapped(n[0].Quo(n[0], n[1])), false
	case impl.OpEq:
		return truth[n[0].Cmp(n[1]) == 0], false
	case impl.OpLess:
		return truth[n[0].Cmp(n[1]) < 0], false
	}
	if args[0] == 0 {
		return args[2], false
	}
	return args[1], false
}

// A machine comes from block to block by calling itself. Its values are found
// by what they are, not by their numbers, and those of a block to which it goes
// are put into a table of their own, so that none of them is read by then.
type machine struct {
	code   impl.Func
	listed []made
	now    map[made]int64
	mem    map[int64]int64
	fuel   int
}

func (m *machine) values(of []int) []int64 {
	var all []int64
	for _, k := range of {
		all = append(all, m.now[m.listed[k]])
	}
	return all
}

func (m *machine) does(in impl.Inst) (int64, bool) {
	if in.Op == impl.OpNum {
		return in.N, false
	}
	args := m.values(in.Args)
	if in.Op != impl.OpLoad && in.Op != impl.OpStore {
		return opByTheWords(in.Op, args)
	}
	was, is := m.mem[args[0]]
	if !is {
		return 0, true
	}
	if in.Op == impl.OpLoad {
		return was, false
	}
	m.mem[args[0]] = args[1]
	return args[1], false
}

func (m *machine) come(block int) (int, int64) {
	if m.fuel == 0 {
		return impl.RnFuel, 0
	}
	m.fuel--
	b := m.code.Blocks[block]
	for at, in := range b.Insts {
		value, traps := m.does(in)
		if traps {
			return impl.RnTrap, 0
		}
		m.now[made{block, at, anInst}] = value
	}
	if b.End == impl.EndReturn {
		return impl.RnReturn, m.values([]int{b.Value})[0]
	}
	by := b.Jumps[0]
	if b.End == impl.EndBranch && m.values([]int{b.Value})[0] == 0 {
		by = b.Jumps[1]
	}
	next := maps.Clone(m.now)
	for at, value := range m.values(by.Args) {
		next[made{by.To, at, ofBlock}] = value
	}
	m.now = next
	return m.come(by.To)
}

func ranByTheWords(f impl.Func, args, mem []int64, fuel int) impl.Outcome {
	m := machine{f, listOfValues(f), map[made]int64{}, map[int64]int64{}, fuel}
	for k, n := range args {
		m.now[made{-1, k, ofFunc}] = n
	}
	for at, n := range mem {
		m.mem[int64(at)] = n
	}
	code, value := m.come(0)
	left := make([]int64, len(mem))
	for at := range left {
		left[at] = m.mem[int64(at)]
	}
	return impl.Outcome{Code: code, Value: value, Mem: left, Fuel: m.fuel}
}

func sameInAll(a, b impl.Outcome) bool {
	return a.Code == b.Code && a.Value == b.Value && slices.Equal(a.Mem, b.Mem) && a.Fuel == b.Fuel
}

func noughts() []int64 { return make([]int64, impl.MemLong) }

// memory has these numbers in front, and noughts behind.
func memory(numbers ...int64) []int64 {
	mem := noughts()
	copy(mem, numbers)
	return mem
}

func expectRun(t *testing.T, what string, f impl.Func, args, mem []int64, fuel int, want impl.Outcome) {
	t.Helper()
	got, ok := impl.RunFunc(f, args, mem, fuel)
	if !ok || !sameInAll(got, want) {
		t.Errorf("RunFunc, %s, of %v with %v, %v, %d: got %v, %v, want %v, true", what, f, args, mem, fuel, got, ok, want)
	}
}

// expectReturn runs with a memory of noughts that stays as it is.
func expectReturn(t *testing.T, what string, f impl.Func, args []int64, fuel int, want int64, left int) {
	t.Helper()
	expectRun(t, what, f, args, noughts(), fuel, impl.Outcome{Code: impl.RnReturn, Value: want, Mem: noughts(), Fuel: left})
}

func expectTrap(t *testing.T, what string, f impl.Func, args []int64, fuel, left int) {
	t.Helper()
	expectRun(t, what, f, args, noughts(), fuel, impl.Outcome{Code: impl.RnTrap, Mem: noughts(), Fuel: left})
}

func expectNoFuel(t *testing.T, what string, f impl.Func, args []int64, fuel int) {
	t.Helper()
	expectRun(t, what, f, args, noughts(), fuel, impl.Outcome{Code: impl.RnFuel, Mem: noughts()})
}

func expectNoRun(t *testing.T, what string, f impl.Func, args, mem []int64, fuel int) {
	t.Helper()
	got, ok := impl.RunFunc(f, args, mem, fuel)
	if ok || !sameInAll(got, impl.Outcome{}) {
		t.Errorf("RunFunc, %s, with %v, %v, %d: got %v, %v, want the zero answer", what, args, mem, fuel, got, ok)
	}
}

func expectValues(t *testing.T, f impl.Func, want int) {
	t.Helper()
	if got, ok := impl.CountValues(f); got != want || !ok {
		t.Errorf("CountValues of %v: got %d, %v, want %d, true", f, got, ok, want)
	}
}

func expectFirst(t *testing.T, f impl.Func, block, want int) {
	t.Helper()
	if got, ok := impl.FirstOf(f, block); got != want || !ok {
		t.Errorf("FirstOf %d of %v: got %d, %v, want %d, true", block, f, got, ok, want)
	}
}

func expectNoFirst(t *testing.T, what string, f impl.Func, block int) {
	t.Helper()
	if got, ok := impl.FirstOf(f, block); got != 0 || ok {
		t.Errorf("FirstOf %d, %s: got %d, %v, want 0, false", block, what, got, ok)
	}
}

func expectArgs(t *testing.T, f impl.Func, value int, want ...int) {
	t.Helper()
	got, ok := impl.ArgsOf(f, value)
	expectList(t, "ArgsOf", got, ok, want...)
}

func expectNoArgs(t *testing.T, what string, f impl.Func, value int) {
	t.Helper()
	got, ok := impl.ArgsOf(f, value)
	expectNoList(t, "ArgsOf, "+what, got, ok)
}

func expectCostOfFunc(t *testing.T, f impl.Func, want int) {
	t.Helper()
	if got, ok := impl.CostOfFunc(f); got != want || !ok {
		t.Errorf("CostOfFunc of %v: got %d, %v, want %d, true", f, got, ok, want)
	}
}

// expectGoodFunc asks for all that there is of a good function but its runs.
func expectGoodFunc(t *testing.T, what string, f impl.Func) {
	t.Helper()
	if !impl.GoodFunc(f) {
		t.Errorf("GoodFunc, %s: want true of %v", what, f)
	}
	listed := listOfValues(f)
	expectValues(t, f, len(listed))
	for k := range f.Blocks {
		first := slices.IndexFunc(listed, func(m made) bool { return m.block == k })
		if first < 0 {
			expectNoFirst(t, what+", no values", f, k)
		} else {
			expectFirst(t, f, k, first)
		}
	}
	cost := 0
	for k, m := range listed {
		if m.is != anInst {
			expectArgs(t, f, k)
			continue
		}
		in := f.Blocks[m.block].Insts[m.at]
		expectArgs(t, f, k, in.Args...)
		if cost += costsTold[in.Op]; in.Op == impl.OpLoad || in.Op == impl.OpStore {
			cost += 5
		}
	}
	expectCostOfFunc(t, f, cost)
	for _, k := range []int{math.MinInt, -1, len(f.Blocks), len(f.Blocks) + 1, math.MaxInt} {
		expectNoFirst(t, what+", no block", f, k)
	}
	for _, k := range []int{math.MinInt, -1, len(listed), len(listed) + 1, math.MaxInt} {
		expectNoArgs(t, what+", no value", f, k)
	}
}

// expectBadFunc asks everywhere for the zero answer.
func expectBadFunc(t *testing.T, what string, f impl.Func) {
	t.Helper()
	if impl.GoodFunc(f) {
		t.Errorf("GoodFunc, %s: want false", what)
	}
	if got, ok := impl.CountValues(f); got != 0 || ok {
		t.Errorf("CountValues, %s: got %d, %v, want 0, false", what, got, ok)
	}
	if got, ok := impl.CostOfFunc(f); got != 0 || ok {
		t.Errorf("CostOfFunc, %s: got %d, %v, want 0, false", what, got, ok)
	}
	for _, k := range []int{math.MinInt, -1, 0, 1, 2, len(f.Blocks), math.MaxInt} {
		expectNoFirst(t, what, f, k)
		expectNoArgs(t, what, f, k)
	}
	for args := range impl.MaxParams + 2 {
		expectNoRun(t, what, f, make([]int64, args), noughts(), 9)
	}
	if f.Params >= 0 && f.Params < 1000 {
		expectNoRun(t, what, f, make([]int64, f.Params), noughts(), impl.MaxFuel)
	}
}

func expectGoodOrBad(t *testing.T, what string, f impl.Func, good bool) {
	t.Helper()
	if good {
		expectGoodFunc(t, what, f)
	} else {
		expectBadFunc(t, what, f)
	}
}

// sumTo adds up all numbers from its parameter down to 1: three blocks, of which the second one is come to again and again.
func sumTo() impl.Func {
	return funcOf(1,
		jumping(jump(1, 0, 1), 0, numInst(0)),
		branching(2, jump(2), jump(3), 2),
		jumping(jump(1, 5, 6), 0, numInst(-1), inst(impl.OpAdd, 2, 4), inst(impl.OpAdd, 3, 2)),
		returning(3, 0),
	)
}

// turning changes its block's two parameters with each other as often as its last parameter tells, and tells the first one.
func turning() impl.Func {
	return funcOf(3,
		jumping(jump(1, 0, 1, 2), 0),
		branching(5, jump(2), jump(3), 3),
		jumping(jump(1, 4, 3, 7), 0, numInst(-1), inst(impl.OpAdd, 5, 6)),
		returning(3, 0),
	)
}

func TestLimitsAndCodesOfCode(t *testing.T) {
	got := []int{impl.MaxBlocks, impl.MaxValues, impl.MaxParams, impl.MemLong, impl.MaxFuel, impl.OpLoad, impl.OpStore,
		impl.EndReturn, impl.EndJump, impl.EndBranch, impl.RnReturn, impl.RnTrap, impl.RnFuel}
	if !slices.Equal(got, []int{8, 80, 4, 8, 200, 12, 13, 1, 2, 3, 1, 2, 3}) {
		t.Error("the constants are", got)
	}
}

func TestGoodFunc(t *testing.T) {
	for name, f := range map[string]impl.Func{
		"one that returns its parameter": funcOf(1, returning(0, 0)),
		"one that returns a number":      funcOf(0, returning(0, 0, numInst(7))),
		"no values":                      funcOf(0, jumping(jump(0), 0)),
		"a sum":                          sumTo(),
		"a turning":                      turning(),
		"a block that is not come to":    funcOf(1, returning(0, 0), returning(0, 0)),
		"a branch to one block":          funcOf(1, branching(0, jump(0), jump(0), 0)),
		"a branch with unlike args":      funcOf(2, branching(0, jump(1, 0), jump(1, 1), 0), returning(2, 1)),
		"values of other blocks":         funcOf(1, jumping(jump(1), 0, inst(impl.OpNeg, 2)), returning(1, 0, inst(impl.OpNeg, 1))),
		"an instruction of itself":       funcOf(0, returning(0, 0, inst(impl.OpNeg, 0))),
	} {
		expectGoodFunc(t, name, f)
	}
}

func TestFuncsOfNoBlocksAndOfMaxBlocks(t *testing.T) {
	expectBadFunc(t, "zero", impl.Func{})
	expectBadFunc(t, "an empty list", impl.Func{Params: 1, Blocks: []impl.Block{}})
	for count := 1; count < 20; count++ {
		f := funcOf(1, slices.Repeat([]impl.Block{returning(0, 0)}, count)...)
		expectGoodOrBad(t, "many blocks", f, count <= impl.MaxBlocks)
		if count <= impl.MaxBlocks {
			expectReturn(t, "many blocks", f, []int64{-5}, 1, -5, 0)
		}
	}
	expectBadFunc(t, "very many blocks", funcOf(1, make([]impl.Block, 100000)...))
}

// The last block is come to with its parameter 4 at most.
func TestParamsOfFuncsAndBlocks(t *testing.T) {
	wrong := []int{math.MinInt, math.MinInt + 1, -impl.MaxParams, -1, impl.MaxParams + 1, 80, 1 << 32, 1 << 62, math.MaxInt}
	for params := range impl.MaxParams + 1 {
		expectGoodFunc(t, "params", funcOf(params, returning(0, 0, numInst(1))))
		expectGoodFunc(t, "params of a block", funcOf(1, jumping(jump(1, make([]int, params)...), 0), returning(0, params)))
		expectGoodFunc(t, "params of one not come to", funcOf(1, returning(0, 0), returning(0, params)))
		expectGoodOrBad(t, "params of block 0", funcOf(1, returning(0, params)), params == 0)
		expectGoodOrBad(t, "params of block 0, jumped to", funcOf(1, jumping(jump(0, make([]int, params)...), params)), params == 0)
	}
	for _, params := range wrong {
		expectBadFunc(t, "params", funcOf(params, returning(0, 0, numInst(1))))
		expectBadFunc(t, "params of block 0", funcOf(1, returning(0, params)))
		expectBadFunc(t, "params of a block", funcOf(1, returning(0, 0), returning(0, params)))
		expectBadFunc(t, "params of the last block", funcOf(1, returning(0, 0), returning(0, 2), returning(0, params)))
	}
	expectBadFunc(t, "five args of a jump", funcOf(1, jumping(jump(1, 0, 0, 0, 0, 0), 0), returning(0, 5)))
	// Too many and too few make up for each other, or wrap.
	expectBadFunc(t, "less and more", funcOf(-1, returning(0, 0, numInst(1)), returning(0, 2)))
	expectBadFunc(t, "more and less", funcOf(2, returning(0, 0), returning(0, -1)))
	expectBadFunc(t, "wrapped", funcOf(2, returning(0, 0), returning(0, math.MaxInt), returning(0, math.MaxInt)))
	expectBadFunc(t, "wrapped to nought", funcOf(1, returning(0, 0), returning(0, 1<<62), returning(0, 1<<62), returning(0, 1<<62), returning(0, 1<<62)))
}

func TestMaxValuesAndOneMore(t *testing.T) {
	for _, params := range []int{0, 1, 4} {
		for _, insts := range []int{impl.MaxValues - 1, impl.MaxValues, impl.MaxValues + 1, impl.MaxValues + 2, 1000} {
			f := funcOf(params, returning(0, 0, slices.Repeat([]impl.Inst{numInst(3)}, insts-params)...))
			expectGoodOrBad(t, "many values in one block", f, insts <= impl.MaxValues)
			// Here each of the last three blocks has a parameter and an instruction at least.
			own := []impl.Inst{numInst(1)}
			more := funcOf(params, returning(0, 0, slices.Repeat(own, 10)...), returning(0, 4, own...), returning(0, 1, own...),
				returning(0, 4, slices.Repeat(own, insts-params-10-5-2-4)...))
			expectGoodOrBad(t, "many values in four blocks", more, insts <= impl.MaxValues)
		}
	}
	full := funcOf(4, returning(79, 0, slices.Repeat([]impl.Inst{inst(impl.OpAdd, 0, 79)}, 76)...))
	expectGoodFunc(t, "the last value is used", full)
	expectReturn(t, "the last value is used", full, []int64{6, 0, 0, 0}, 1, 12-6, 0)
}

func TestOpsOfInstructions(t *testing.T) {
	ops := []int{math.MinInt, -257, -13, 14, 15, 255, 256 + impl.OpNum, 1<<32 + impl.OpAdd, math.MaxInt}
	for op := -3; op < 20; op++ {
		ops = append(ops, op)
	}
	for _, op := range ops {
		args, is := argsTold[op]
		for count := range 6 {
			in := inst(op, make([]int, count)...)
			good := is && count == args
			expectGoodOrBad(t, "an op", funcOf(1, returning(0, 0, in)), good)
			expectGoodOrBad(t, "an op behind", funcOf(1, returning(0, 0, numInst(1), in)), good)
			expectGoodOrBad(t, "an op in a block that is not come to", funcOf(1, returning(0, 0), returning(0, 1, in)), good)
		}
		expectBadFunc(t, "an op of many args", funcOf(1, returning(0, 0, inst(op, make([]int, 1000)...))))
	}
}

func TestNumbersOfInstructions(t *testing.T) {
	for op, args := range argsTold {
		for _, n := range wrapNumbers {
			in := impl.Inst{Op: op, N: n, Args: make([]int, args)}
			expectGoodOrBad(t, "N", funcOf(1, returning(0, 0, in)), op == impl.OpNum || n == 0)
			expectGoodOrBad(t, "N behind", funcOf(1, returning(0, 0), returning(0, 0, numInst(2), in)), op == impl.OpNum || n == 0)
		}
	}
}

func TestArgsOfInstructionsAndJumps(t *testing.T) {
	// There are 7 values: 2 parameters, 1 instruction, and 1 parameter and 3 instructions of the other block.
	for _, k := range []int{math.MinInt, -7, -1, 0, 1, 2, 3, 6, 7, 8, 80, 1 << 32, math.MaxInt} {
		good := k >= 0 && k < 7
		two := []impl.Inst{numInst(1), numInst(2)}
		for op, args := range argsTold {
			for at := range args {
				in := inst(op, make([]int, args)...)
				in.Args[at] = k
				expectGoodOrBad(t, "an arg", funcOf(2, jumping(jump(1, 0), 0, in), returning(0, 1, append(two, numInst(3))...)), good)
				expectGoodOrBad(t, "an arg behind", funcOf(2, jumping(jump(1, 0), 0, numInst(3)), returning(0, 1, append(two, in)...)), good)
			}
		}
		last := returning(0, 1, append(two, numInst(3))...)
		expectGoodOrBad(t, "the arg of a jump", funcOf(2, jumping(jump(1, k), 0, numInst(1)), last), good)
		expectGoodOrBad(t, "the arg of a first jump", funcOf(2, branching(0, jump(1, k), jump(1, 0), 0, numInst(1)), last), good)
		expectGoodOrBad(t, "the arg of a second jump", funcOf(2, branching(0, jump(1, 0), jump(1, k), 0, numInst(1)), last), good)
		expectGoodOrBad(t, "a value that is returned", funcOf(2, returning(k, 0, numInst(1)), last), good)
		expectGoodOrBad(t, "a value by which it goes", funcOf(2, branching(k, jump(1, 0), jump(1, 0), 0, numInst(1)), last), good)
		expectGoodOrBad(t, "the Value of a jump", funcOf(2, impl.Block{Insts: []impl.Inst{numInst(1)}, End: impl.EndJump, Value: k, Jumps: []impl.Jump{jump(1, 0)}}, last), k == 0)
	}
	four := funcOf(1, jumping(jump(1, 0, 1, 2, 3), 0), returning(4, 4))
	for at := range 4 {
		for _, k := range []int{-1, 4, 5} {
			f := funcOf(1, four.Blocks...)
			f.Blocks = slices.Clone(f.Blocks)
			f.Blocks[0].Jumps = []impl.Jump{jump(1, 0, 1, 2, 3)}
			f.Blocks[0].Jumps[0].Args[at] = k
			expectGoodOrBad(t, "an arg of four", f, k == 4)
		}
	}
}

func TestEndsAndTheirJumps(t *testing.T) {
	for _, end := range []int{math.MinInt, -3, -2, -1, 0, 1, 2, 3, 4, 5, 257, 1<<32 + 1, math.MaxInt} {
		jumps, is := jumpsTold[end]
		for count := range 5 {
			b := impl.Block{End: end, Jumps: slices.Repeat([]impl.Jump{jump(1)}, count)}
			good := is && count == jumps
			expectGoodOrBad(t, "an end", funcOf(1, b, returning(0, 0)), good)
			expectGoodOrBad(t, "an end that is not come to", funcOf(1, returning(0, 0), returning(0, 0), b), good)
		}
		expectBadFunc(t, "an end of many jumps", funcOf(1, impl.Block{End: end, Jumps: make([]impl.Jump, 1000)}))
	}
	// Where there are no values there is none that could be returned.
	expectBadFunc(t, "no value", funcOf(0, returning(0, 0)))
	expectBadFunc(t, "no value to go by", funcOf(0, branching(0, jump(0), jump(0), 0)))
	expectBadFunc(t, "no value behind", funcOf(0, jumping(jump(1), 0), returning(0, 0)))
	expectBadFunc(t, "no end", funcOf(1, impl.Block{}))
}

func TestBlocksToWhichJumpsGo(t *testing.T) {
	for _, to := range []int{math.MinInt, -3, -1, 0, 1, 2, 3, 4, 8, 1 << 32, math.MaxInt} {
		good := to >= 0 && to < 3
		plain := returning(0, 0)
		expectGoodOrBad(t, "a jump", funcOf(1, jumping(jump(to), 0), plain, plain), good)
		expectGoodOrBad(t, "a first jump", funcOf(1, branching(0, jump(to), jump(1), 0), plain, plain), good)
		expectGoodOrBad(t, "a second jump", funcOf(1, branching(0, jump(1), jump(to), 0), plain, plain), good)
		expectGoodOrBad(t, "a jump that is not come to", funcOf(1, plain, plain, jumping(jump(to), 0)), good)
	}
}

func TestArgsThatBlocksAskFor(t *testing.T) {
	for params := range impl.MaxParams + 1 {
		for count := range impl.MaxParams + 3 {
			by := jump(1, make([]int, count)...)
			as := jump(1, make([]int, params)...)
			expectGoodOrBad(t, "a jump", funcOf(1, jumping(by, 0), returning(0, params)), count == params)
			expectGoodOrBad(t, "a first jump", funcOf(1, branching(0, by, as, 0), returning(0, params)), count == params)
			expectGoodOrBad(t, "a second jump", funcOf(1, branching(0, as, by, 0), returning(0, params)), count == params)
			back := jump(0, make([]int, count)...)
			expectGoodOrBad(t, "a jump to block 0", funcOf(1, branching(0, as, back, 0), returning(0, params)), count == 0)
			expectGoodOrBad(t, "a jump to block 0 from behind", funcOf(1, jumping(as, 0), jumping(back, params)), count == 0)
			expectGoodOrBad(t, "a jump to itself", funcOf(1, jumping(as, 0), jumping(by, params)), count == params)
		}
	}
	expectBadFunc(t, "very many args", funcOf(1, jumping(jump(1, make([]int, 100000)...), 0), returning(0, 1)))
}

func TestNumbersOfValues(t *testing.T) {
	f := funcOf(2,
		jumping(jump(2, 0, 2), 0, numInst(4), inst(impl.OpStore, 2, 0)),
		jumping(jump(3), 0),
		branching(4, jump(1), jump(4, 7, 6, 5), 2, inst(impl.OpIf, 5, 0, 1), inst(impl.OpDiv, 0, 2)),
		returning(8, 0),
		returning(1, 3),
		returning(2, 0, inst(impl.OpLoad, 11)),
	)
	expectGoodFunc(t, "six blocks", f)
	expectValues(t, f, 12)
	for block, first := range map[int]int{0: 2, 2: 4, 4: 8, 5: 11} {
		expectFirst(t, f, block, first)
	}
	// Blocks of neither parameters nor instructions have no first value.
	expectNoFirst(t, "no values", f, 1)
	expectNoFirst(t, "no values", f, 3)
	for value, args := range [][]int{nil, nil, nil, {2, 0}, nil, nil, {5, 0, 1}, {0, 2}, nil, nil, nil, {11}} {
		expectArgs(t, f, value, args...)
	}
	none := funcOf(0, jumping(jump(0), 0))
	expectValues(t, none, 0)
	expectNoFirst(t, "no values at all", none, 0)
	expectNoArgs(t, "no values at all", none, 0)
	params := funcOf(4, jumping(jump(1, 3, 2, 1, 0), 0), returning(0, 4))
	expectValues(t, params, 8)
	expectNoFirst(t, "parameters of the function alone", params, 0)
	expectFirst(t, params, 1, 4)
	for value := range 8 {
		expectArgs(t, params, value)
	}
}

func TestRunsAtTheEdgesOfFuel(t *testing.T) {
	f := sumTo()
	for fuel := -300; fuel <= 2*impl.MaxFuel; fuel++ {
		switch {
		case fuel < 0 || fuel > impl.MaxFuel:
			expectNoRun(t, "fuel", f, []int64{3}, noughts(), fuel)
		case fuel < 9:
			expectNoFuel(t, "fuel", f, []int64{3}, fuel)
		default:
			// Blocks 0, 1, 2, 1, 2, 1, 2, 1, 3.
			expectReturn(t, "fuel", f, []int64{3}, fuel, 6, fuel-9)
		}
	}
	for _, fuel := range []int{math.MinInt, math.MinInt + 1, -1 << 32, 1 << 32, 1<<32 + 9, math.MaxInt - 1, math.MaxInt} {
		expectNoRun(t, "fuel", f, []int64{3}, noughts(), fuel)
	}
	// 2 blocks a round, and 3 more.
	expectReturn(t, "all the fuel", f, []int64{98}, impl.MaxFuel, 98*99/2, 1)
	expectNoFuel(t, "a round more", f, []int64{99}, impl.MaxFuel)
	expectNoFuel(t, "no end", f, []int64{-1}, impl.MaxFuel)
}

func TestRunsOfAsManyArgsAndNumbers(t *testing.T) {
	for params := range impl.MaxParams + 1 {
		f := funcOf(params, returning(params, 0, numInst(5)))
		for args := range impl.MaxParams + 3 {
			for long := range 2*impl.MemLong + 1 {
				if args == params && long == impl.MemLong {
					expectReturn(t, "as many as asked", f, make([]int64, args), 3, 5, 2)
				} else {
					expectNoRun(t, "args or memory", f, make([]int64, args), make([]int64, long), 3)
				}
			}
		}
		expectNoRun(t, "many args", f, make([]int64, 10000), noughts(), 3)
		expectNoRun(t, "a long memory", f, make([]int64, params), make([]int64, 10000), 3)
		expectNoRun(t, "no memory", f, make([]int64, params), nil, 3)
	}
	for which, want := range []int64{11, -12, 13, math.MinInt64} {
		expectReturn(t, "each arg", funcOf(4, returning(which, 0)), []int64{11, -12, 13, math.MinInt64}, 1, want, 0)
	}
}

func TestAFunctionThatGoesRoundForever(t *testing.T) {
	mem := []int64{3, -1, 4, 1, 5, math.MinInt64, 2, math.MaxInt64}
	for fuel := range impl.MaxFuel + 1 {
		nothing := impl.Outcome{Code: impl.RnFuel, Mem: mem}
		expectRun(t, "no values", funcOf(0, jumping(jump(0), 0)), nil, mem, fuel, nothing)
		expectRun(t, "a branch", funcOf(1, branching(0, jump(0), jump(0), 0)), []int64{1}, mem, fuel, nothing)
		// Each round is one more in the memory.
		counts := funcOf(0, jumping(jump(0), 0, numInst(1), inst(impl.OpLoad, 0), inst(impl.OpAdd, 0, 1), inst(impl.OpStore, 0, 2)))
		left := slices.Clone(mem)
		left[1] += int64(fuel)
		expectRun(t, "a memory that counts", counts, nil, mem, fuel, impl.Outcome{Code: impl.RnFuel, Mem: left})
	}
}

func TestParametersChangeAllAtOnce(t *testing.T) {
	for times := range int64(40) {
		want := []int64{21, 34}[times%2]
		expectReturn(t, "two that change places", turning(), []int64{21, 34, times}, impl.MaxFuel, want, impl.MaxFuel-3-2*int(times))
	}
	// Of four each becomes the next one, told as digits.
	f := funcOf(4,
		jumping(jump(1, 0, 1, 2, 3), 0),
		branching(9, jump(1, 5, 6, 7, 4), jump(2), 4, numInst(1), inst(impl.OpLess, 3, 4)),
		returning(16, 0, numInst(10), inst(impl.OpMul, 4, 10), inst(impl.OpAdd, 11, 5), inst(impl.OpMul, 12, 10),
			inst(impl.OpAdd, 13, 6), inst(impl.OpMul, 14, 10), inst(impl.OpAdd, 15, 7)),
	)
	// Three times, until the least one is the first.
	expectReturn(t, "four digits", f, []int64{9, 7, 5, 3}, 20, 3975, 14)
	expectReturn(t, "four digits in order", f, []int64{2, 7, 5, 3}, 20, 2753, 17)
	round := func(by ...int) impl.Func {
		return funcOf(4,
			jumping(jump(1, 0, 1, 2, 3), 0),
			jumping(jump(2, by...), 4),
			returning(18, 4, numInst(10), inst(impl.OpMul, 8, 12), inst(impl.OpAdd, 13, 9), inst(impl.OpMul, 14, 12),
				inst(impl.OpAdd, 15, 10), inst(impl.OpMul, 16, 12), inst(impl.OpAdd, 17, 11)),
		)
	}
	for want, by := range map[int64][]int{9753: {4, 5, 6, 7}, 3579: {7, 6, 5, 4}, 7539: {5, 6, 7, 4}, 3975: {7, 4, 5, 6}, 9999: {4, 4, 4, 4}, 7799: {5, 5, 4, 4}} {
		expectReturn(t, "to another block", round(by...), []int64{9, 7, 5, 3}, 9, want, 6)
	}
	// A block's parameter becomes that of the same block in another place, at both jumps.
	own := funcOf(3,
		jumping(jump(1, 0, 1, 2), 0),
		branching(5, jump(1, 4, 3, 6), jump(2, 4, 3), 3, inst(impl.OpLess, 3, 4)),
		returning(9, 2, inst(impl.OpSub, 7, 8)),
	)
	expectReturn(t, "the second jump", own, []int64{5, 8, 0}, 20, 3, 17)
	expectReturn(t, "the second jump the other way round", own, []int64{8, 5, 0}, 20, -3, 17)
	expectReturn(t, "one first jump", own, []int64{8, 5, 1}, 20, 3, 16)
	expectReturn(t, "two first jumps", own, []int64{5, 8, 1}, 20, 3, 15)
}

func TestValuesThatAreUsedAheadOfBeingMade(t *testing.T) {
	expectReturn(t, "a later one", funcOf(1, returning(1, 0, inst(impl.OpAdd, 0, 2), numInst(5))), []int64{9}, 1, 9, 0)
	expectReturn(t, "itself", funcOf(0, returning(0, 0, inst(impl.OpNeg, 0))), nil, 1, 0, 0)
	expectReturn(t, "of a block that is not come to", funcOf(1, returning(1, 0), returning(1, 0, numInst(5))), []int64{9}, 1, 0, 0)
	expectReturn(t, "a parameter of one", funcOf(1, returning(1, 0), returning(1, 1)), []int64{9}, 1, 0, 0)
	expectReturn(t, "an argument of a jump", funcOf(1, jumping(jump(1, 2), 0), returning(1, 1, numInst(5))), []int64{9}, 2, 0, 0)
	expectReturn(t, "a branch by one", funcOf(1, branching(3, jump(1), jump(2), 0), returning(0, 0, numInst(4)), returning(2, 0, numInst(5), numInst(6))), []int64{9}, 3, 5, 1)
	expectReturn(t, "a value that stays there", funcOf(0, jumping(jump(1), 0, numInst(7)), returning(0, 0)), nil, 2, 7, 0)
}

func TestValuesOfEarlierRounds(t *testing.T) {
	// The second instruction is itself of the round ahead, and 1 more.
	f := funcOf(1, branching(3, jump(0), jump(1), 0, numInst(1), inst(impl.OpAdd, 2, 1), inst(impl.OpLess, 2, 0)), returning(2, 0))
	for n := int64(1); n < impl.MaxFuel; n++ {
		expectReturn(t, "itself", f, []int64{n}, impl.MaxFuel, n, impl.MaxFuel-1-int(n))
	}
	expectNoFuel(t, "itself", f, []int64{impl.MaxFuel}, impl.MaxFuel)
	// What the second block made is used by the first one when that is come to again.
	other := funcOf(1,
		branching(1, jump(2), jump(1), 0, inst(impl.OpAdd, 2, 2)),
		jumping(jump(0), 0, inst(impl.OpMul, 0, 0)),
		returning(1, 0),
	)
	expectReturn(t, "of another block", other, []int64{3}, 9, 18, 5)
	expectNoFuel(t, "of another block", other, []int64{0}, 9)
	// The parameter of a block is used in another one, by what is itself of the round ahead.
	behind := funcOf(1,
		jumping(jump(1, 0), 0),
		branching(1, jump(2), jump(3), 1),
		jumping(jump(1, 3), 0, numInst(-1), inst(impl.OpAdd, 1, 2), inst(impl.OpSub, 4, 1)),
		returning(4, 0),
	)
	expectReturn(t, "a parameter", behind, []int64{4}, 20, -4-3-2-1, 9)
	expectReturn(t, "no round", behind, []int64{0}, 20, 0, 17)
}

func TestEachOpAtTheEdgesOfNumbers(t *testing.T) {
	for op, args := range argsTold {
		if op == impl.OpNum || op == impl.OpIf || op == impl.OpLoad || op == impl.OpStore {
			continue
		}
		f := funcOf(args, returning(args, 0, inst(op, []int{0, 1}[:args]...)))
		for _, a := range wrapNumbers {
			for _, b := range wrapNumbers {
				list := []int64{a, b}[:args]
				want, traps := opByTheWords(op, list)
				if traps {
					expectTrap(t, "an op", f, list, 1, 0)
				} else {
					expectReturn(t, "an op", f, list, 1, want, 0)
				}
			}
		}
	}
	for _, n := range wrapNumbers {
		expectReturn(t, "a number", funcOf(0, returning(0, 0, numInst(n))), nil, 2, n, 1)
		choice := funcOf(3, returning(3, 0, inst(impl.OpIf, 0, 1, 2)))
		want := n
		if n == 0 {
			want = -8
		}
		expectReturn(t, "a choice", choice, []int64{n, n, -8}, 2, want, 1)
		expectReturn(t, "a choice of 0", choice, []int64{0, 5, n}, 2, n, 1)
		expectReturn(t, "a choice of 1", choice, []int64{1, n, 5}, 2, n, 1)
	}
}

// What an instruction chooses from is made already, so that what traps there traps.
func TestChoicesReckonNothing(t *testing.T) {
	f := funcOf(3, returning(4, 0, inst(impl.OpDiv, 1, 2), inst(impl.OpIf, 0, 3, 1)))
	expectTrap(t, "a side that is not taken", f, []int64{0, 5, 0}, 4, 3)
	expectReturn(t, "the other side", f, []int64{0, 5, 2}, 4, 5, 3)
	expectReturn(t, "the side", f, []int64{-1, 5, 2}, 4, 2, 3)
}

func TestBranchesWithAndWithoutNought(t *testing.T) {
	f := funcOf(1, branching(0, jump(1), jump(2), 0), returning(1, 0, numInst(10)), returning(2, 0, numInst(20)))
	for _, n := range append(wrapNumbers, 1<<32, 1<<63-256, 256) {
		want := int64(10)
		if n == 0 {
			want = 20
		}
		expectReturn(t, "a branch", f, []int64{n}, 2, want, 0)
	}
	one := funcOf(2, branching(0, jump(1, 0), jump(1, 1), 0), returning(2, 1))
	expectReturn(t, "the first jump to the same block", one, []int64{4, 5}, 2, 4, 0)
	expectReturn(t, "the second jump to the same block", one, []int64{0, 5}, 2, 5, 0)
}

func TestAddresses(t *testing.T) {
	mem := []int64{10, 11, 12, 13, 14, 15, 16, math.MinInt64}
	loads := funcOf(2, returning(2, 0, inst(impl.OpLoad, 0)))
	stores := funcOf(2, returning(2, 0, inst(impl.OpStore, 0, 1)))
	for at := range int64(impl.MemLong) {
		expectRun(t, "a load", loads, []int64{at, 0}, mem, 5, impl.Outcome{Code: impl.RnReturn, Value: mem[at], Mem: mem, Fuel: 4})
		for _, n := range wrapNumbers {
			left := slices.Clone(mem)
			left[at] = n
			expectRun(t, "a store", stores, []int64{at, n}, mem, 5, impl.Outcome{Code: impl.RnReturn, Value: n, Mem: left, Fuel: 4})
		}
	}
	for _, at := range []int64{math.MinInt64, math.MinInt64 + 1, -1 << 32, -256, -9, -8, -7, -1, 8, 9, 15, 16, 255, 256, 1 << 32, 1<<32 + 1, 1 << 62, math.MaxInt64} {
		expectRun(t, "a load", loads, []int64{at, 1}, mem, 5, impl.Outcome{Code: impl.RnTrap, Mem: mem, Fuel: 4})
		expectRun(t, "a store", stores, []int64{at, 1}, mem, 5, impl.Outcome{Code: impl.RnTrap, Mem: mem, Fuel: 4})
	}
}

func TestLoadsAndStoresBehindEachOther(t *testing.T) {
	f := funcOf(2, jumping(jump(1), 0, inst(impl.OpLoad, 0), inst(impl.OpStore, 0, 1), inst(impl.OpLoad, 0), inst(impl.OpStore, 0, 2)),
		returning(9, 0, inst(impl.OpLoad, 0), numInst(100), inst(impl.OpMul, 4, 7), inst(impl.OpAdd, 6, 8)))
	// 5 is at the address, 7 is put there and loaded, and 5 is put there again.
	expectRun(t, "there and back", f, []int64{3, 7}, memory(0, 0, 0, 5), 9,
		impl.Outcome{Code: impl.RnReturn, Value: 705, Mem: memory(0, 0, 0, 5), Fuel: 7})
	// A store's value is an address and a number to be stored.
	chain := funcOf(1, returning(3, 0, inst(impl.OpStore, 0, 0), inst(impl.OpStore, 1, 1), inst(impl.OpLoad, 2)))
	expectRun(t, "values of stores", chain, []int64{6}, noughts(), 1, impl.Outcome{Code: impl.RnReturn, Value: 6, Mem: memory(0, 0, 0, 0, 0, 0, 6)})
	last := funcOf(2, returning(0, 0, inst(impl.OpStore, 0, 1), inst(impl.OpStore, 0, 0)))
	expectRun(t, "the last store counts", last, []int64{2, 9}, noughts(), 1, impl.Outcome{Code: impl.RnReturn, Value: 2, Mem: memory(0, 0, 2)})
}

func TestTrapsBehindStores(t *testing.T) {
	for name, trap := range map[string]impl.Inst{
		"a quotient": inst(impl.OpDiv, 1, 4), "a load": inst(impl.OpLoad, 1), "a store": inst(impl.OpStore, 1, 0),
	} {
		// Parameters 0 and 1 are 2 and 8; what stands behind the trap is not done.
		one := funcOf(2, returning(0, 0, inst(impl.OpStore, 0, 1), trap, numInst(0), inst(impl.OpStore, 4, 0)))
		expectRun(t, name, one, []int64{2, 8}, memory(4), 6, impl.Outcome{Code: impl.RnTrap, Mem: memory(4, 0, 8), Fuel: 5})
		ahead := funcOf(2, returning(0, 0, trap, numInst(0), numInst(0), inst(impl.OpStore, 0, 1)))
		expectRun(t, name+" ahead", ahead, []int64{2, 8}, memory(4), 6, impl.Outcome{Code: impl.RnTrap, Mem: memory(4), Fuel: 5})
		later := funcOf(2, jumping(jump(1), 0, inst(impl.OpStore, 0, 1)), jumping(jump(2), 0, inst(impl.OpStore, 0, 0), numInst(0)), returning(0, 0, trap))
		expectRun(t, name+" in a later block", later, []int64{2, 8}, memory(4), 6, impl.Outcome{Code: impl.RnTrap, Mem: memory(4, 0, 2), Fuel: 3})
		expectRun(t, name+" with the last fuel", later, []int64{2, 8}, memory(4), 3, impl.Outcome{Code: impl.RnTrap, Mem: memory(4, 0, 2)})
		expectRun(t, name+" not come to", later, []int64{2, 8}, memory(4), 2, impl.Outcome{Code: impl.RnFuel, Mem: memory(4, 0, 2)})
	}
	// The trap comes in the fourth round: 3 by 3, by 2, by 1, by 0.
	f := funcOf(1,
		jumping(jump(1, 0), 0),
		jumping(jump(1, 5), 1, inst(impl.OpStore, 1, 1), numInst(-1), inst(impl.OpDiv, 0, 1), inst(impl.OpAdd, 1, 3)))
	expectRun(t, "a later round", f, []int64{3}, noughts(), 9, impl.Outcome{Code: impl.RnTrap, Mem: memory(0, 1, 2, 3), Fuel: 4})
}

func randomInst(r *rand.Rand, count int) impl.Inst {
	if r.Intn(4) == 0 {
		n := int64(r.Intn(11) - 1)
		if r.Intn(8) == 0 {
			n = wrapNumbers[r.Intn(len(wrapNumbers))]
		}
		return numInst(n)
	}
	ops := []int{impl.OpNeg, impl.OpAdd, impl.OpSub, impl.OpMul, impl.OpShl, impl.OpDiv, impl.OpEq, impl.OpLess, impl.OpIf, impl.OpLoad, impl.OpStore, impl.OpStore}
	op := ops[r.Intn(len(ops))]
	if op == impl.OpDiv && r.Intn(3) > 0 {
		op = impl.OpLess
	}
	return inst(op, randomValues(r, argsTold[op], count)...)
}

func randomValues(r *rand.Rand, long, count int) []int {
	all := make([]int, long)
	for k := range all {
		all[k] = r.Intn(count)
	}
	return all
}

func randomEnd(r *rand.Rand, f *impl.Func, k, count int) {
	b := &f.Blocks[k]
	b.End = 1 + r.Intn(3)
	if b.End == impl.EndReturn && k+1 < len(f.Blocks) && r.Intn(3) > 0 {
		b.End = impl.EndBranch
	}
	if b.End != impl.EndJump {
		b.Value = r.Intn(count)
	}
	for range jumpsTold[b.End] {
		to := r.Intn(len(f.Blocks))
		b.Jumps = append(b.Jumps, jump(to, randomValues(r, f.Blocks[to].Params, count)...))
	}
}

// randomFunc uses any values at any places: what is not made yet is 0, or of an earlier round.
func randomFunc(r *rand.Rand) impl.Func {
	f := funcOf(r.Intn(impl.MaxParams+1), make([]impl.Block, 1+r.Intn(impl.MaxBlocks))...)
	for k := range f.Blocks {
		if k > 0 && r.Intn(3) > 0 {
			f.Blocks[k].Params = r.Intn(impl.MaxParams + 1)
		}
		f.Blocks[k].Insts = make([]impl.Inst, r.Intn(6))
	}
	f.Blocks[0].Insts = append(f.Blocks[0].Insts, impl.Inst{})
	count := len(listOfValues(f))
	for k, b := range f.Blocks {
		for at := range b.Insts {
			b.Insts[at] = randomInst(r, count)
		}
		randomEnd(r, &f, k, count)
	}
	return f
}

// randomRounds goes round a block as often as its counter tells, or till something traps, with parameters that change places.
func randomRounds(r *rand.Rand) impl.Func {
	insts := []impl.Inst{numInst(-1), inst(impl.OpAdd, 7, 8)}
	for range r.Intn(5) {
		insts = append(insts, randomInst(r, 8+len(insts)))
	}
	count := 8 + len(insts)
	first := numInst(int64(r.Intn(40)))
	return funcOf(3,
		jumping(jump(1, append(randomValues(r, 3, 4), 3)...), 0, first),
		branching(9, jump(1, append(randomValues(r, 3, count), 9)...), jump(2, r.Intn(count)), 4, insts...),
		returning(count, 1),
	)
}

func anyFunc(r *rand.Rand) impl.Func {
	if r.Intn(3) == 0 {
		return randomRounds(r)
	}
	return randomFunc(r)
}

func randomNumbers(r *rand.Rand, long int) []int64 {
	all := make([]int64, long)
	for k := range all {
		if all[k] = int64(r.Intn(11) - 2); r.Intn(6) == 0 {
			all[k] = wrapNumbers[r.Intn(len(wrapNumbers))]
		}
	}
	return all
}

// copyOfFunc shares no memory with what it is a copy of.
func copyOfFunc(f impl.Func) impl.Func {
	g := funcOf(f.Params, slices.Clone(f.Blocks)...)
	for k, b := range g.Blocks {
		g.Blocks[k].Insts = slices.Clone(b.Insts)
		for at, in := range b.Insts {
			g.Blocks[k].Insts[at].Args = slices.Clone(in.Args)
		}
		g.Blocks[k].Jumps = slices.Clone(b.Jumps)
		for at, j := range b.Jumps {
			g.Blocks[k].Jumps[at].Args = slices.Clone(j.Args)
		}
	}
	return g
}

// changedNumber is one that is at an edge, or near what it was.
func changedNumber(r *rand.Rand, was int) int {
	near := []int{was - 1, was + 1, was - 1, was + 1, -1, 0, 1, 2, 3, 4, 5, 13, 14, 79, 80, 81, math.MinInt, math.MaxInt}
	return near[r.Intn(len(near))]
}

func changedList(r *rand.Rand, l []int) []int {
	switch {
	case len(l) > 0 && r.Intn(3) == 0:
		return l[:len(l)-1]
	case len(l) > 0 && r.Intn(3) > 0:
		k := r.Intn(len(l))
		l[k] = changedNumber(r, l[k])
		return l
	}
	return append(l, 0)
}

// changedFunc has one thing of another one changed.
func changedFunc(r *rand.Rand, was impl.Func) impl.Func {
	f := copyOfFunc(was)
	b := &f.Blocks[r.Intn(len(f.Blocks))]
	switch r.Intn(11) {
	case 0:
		f.Params = changedNumber(r, f.Params)
	case 1:
		b.Params = changedNumber(r, b.Params)
	case 2:
		b.End = changedNumber(r, b.End)
	case 3:
		b.Value = changedNumber(r, b.Value)
	case 4:
		f.Blocks = f.Blocks[:len(f.Blocks)-1]
	case 5:
		f.Blocks = append(f.Blocks, returning(0, 0))
	case 6:
		b.Jumps = append(b.Jumps, jump(0))
	case 7, 8:
		if len(b.Jumps) > 0 {
			j := &b.Jumps[r.Intn(len(b.Jumps))]
			if j.Args = changedList(r, j.Args); r.Intn(2) == 0 {
				j.To = changedNumber(r, j.To)
			}
		}
	default:
		if len(b.Insts) > 0 {
			in := &b.Insts[r.Intn(len(b.Insts))]
			switch r.Intn(4) {
			case 0:
				in.Op = changedNumber(r, in.Op)
			case 1:
				in.N = int64(changedNumber(r, int(in.N)))
			default:
				in.Args = changedList(r, in.Args)
			}
		}
	}
	return f
}

func TestFuncsAreGoodAsTheWordsTell(t *testing.T) {
	r := rand.New(rand.NewSource(120))
	good, bad := 0, 0
	for range 6000 {
		f := randomFunc(r)
		if !goodFuncByTheWords(f) {
			t.Fatal("a function was made that is not good", f)
		}
		expectGoodFunc(t, "any function", f)
		for range 1 + r.Intn(3) {
			f = changedFunc(r, f)
			if len(f.Blocks) == 0 {
				break
			}
		}
		if goodFuncByTheWords(f) {
			good++
			expectGoodFunc(t, "a changed one", f)
		} else {
			bad++
			expectBadFunc(t, "a changed one", f)
		}
	}
	if good < 500 || bad < 500 {
		t.Errorf("%d good, %d bad: too few", good, bad)
	}
}

func TestRunsAsTheWordsTell(t *testing.T) {
	r := rand.New(rand.NewSource(121))
	codes, blocks := map[int]int{}, 0
	for range 30000 {
		f := anyFunc(r)
		args, mem, fuel := randomNumbers(r, f.Params), randomNumbers(r, impl.MemLong), r.Intn(impl.MaxFuel+1)
		want := ranByTheWords(f, args, mem, fuel)
		expectRun(t, "any function", f, args, mem, fuel, want)
		codes[want.Code]++
		if want.Code == impl.RnReturn && want.Fuel < fuel-4 {
			blocks++
		}
	}
	if codes[impl.RnReturn] < 3000 || codes[impl.RnTrap] < 3000 || codes[impl.RnFuel] < 3000 || blocks < 1000 {
		t.Errorf("codes %v, %d that return behind five blocks or more: too few", codes, blocks)
	}
}

// Promise 12: with more fuel a run that came to its end comes to the same one.
func TestMoreFuelComesToTheSameEnd(t *testing.T) {
	r := rand.New(rand.NewSource(122))
	ends := map[int]int{}
	for range 1500 {
		f := anyFunc(r)
		args, mem := randomNumbers(r, f.Params), randomNumbers(r, impl.MemLong)
		var first impl.Outcome
		for fuel := range impl.MaxFuel + 1 {
			got, ok := impl.RunFunc(f, args, mem, fuel)
			if !ok {
				t.Fatal("no run of", f)
			}
			if first.Code == 0 && got.Code != impl.RnFuel {
				if first = got; first.Fuel != 0 {
					t.Fatalf("%d is left of the least fuel, %d, of %v", first.Fuel, fuel, f)
				}
				ends[first.Code]++
			}
			if first.Code == 0 {
				continue
			}
			same, ok := impl.SameOutcome(first, got)
			if first.Fuel++; !same || !ok || got.Fuel != first.Fuel-1 {
				t.Fatalf("fuel %d of %v: got %v, want it as %v, with one more for each more", fuel, f, got, first)
			}
		}
		if first.Code == 0 {
			ends[impl.RnFuel]++
		}
	}
	if ends[impl.RnReturn] < 200 || ends[impl.RnTrap] < 200 || ends[impl.RnFuel] < 200 {
		t.Error("too few ends of some kind", ends)
	}
}

func TestCostOfFunc(t *testing.T) {
	for op, args := range argsTold {
		want := costsTold[op]
		if op == impl.OpLoad || op == impl.OpStore {
			want = 5
		}
		in := inst(op, make([]int, args)...)
		expectCostOfFunc(t, funcOf(1, returning(0, 0, in)), want)
		expectCostOfFunc(t, funcOf(1, returning(0, 0, in, in, numInst(1))), 2*want+1)
		expectCostOfFunc(t, funcOf(1, returning(0, 0), returning(0, 0, in)), want)
		expectCostOfFunc(t, funcOf(4, jumping(jump(1, 0, 0, 0, 0), 0, in), returning(0, 4, in, numInst(0))), 2*want+1)
	}
	expectCostOfFunc(t, funcOf(4, jumping(jump(1, 0, 0, 0, 0), 0), returning(0, 4)), 0)
	expectCostOfFunc(t, funcOf(0, jumping(jump(0), 0)), 0)
	expectCostOfFunc(t, sumTo(), 1+1+2+2)
	expectCostOfFunc(t, funcOf(1, returning(0, 0, slices.Repeat([]impl.Inst{inst(impl.OpDiv, 0, 0)}, impl.MaxValues-1)...)), 20*79)
}

func outcome(code int, value int64, mem []int64, fuel int) impl.Outcome {
	return impl.Outcome{Code: code, Value: value, Mem: mem, Fuel: fuel}
}

func expectSameOutcome(t *testing.T, a, b impl.Outcome, want bool) {
	t.Helper()
	if got, ok := impl.SameOutcome(a, b); got != want || !ok {
		t.Errorf("SameOutcome of %v and %v: got %v, %v, want %v, true", a, b, got, ok, want)
	}
	if got, ok := impl.SameOutcome(b, a); got != want || !ok {
		t.Errorf("SameOutcome of %v and %v: got %v, %v, want %v, true", b, a, got, ok, want)
	}
}

func expectNoOutcome(t *testing.T, what string, a impl.Outcome) {
	t.Helper()
	for _, b := range []impl.Outcome{outcome(impl.RnReturn, 0, noughts(), 0), outcome(impl.RnFuel, 3, memory(1, 2), 7), a} {
		if got, ok := impl.SameOutcome(a, b); got || ok {
			t.Errorf("SameOutcome, %s, as the first: got %v, %v, want false, false", what, got, ok)
		}
		if got, ok := impl.SameOutcome(b, a); got || ok {
			t.Errorf("SameOutcome, %s, as the second: got %v, %v, want false, false", what, got, ok)
		}
	}
}

func TestSameOutcome(t *testing.T) {
	for code := impl.RnReturn; code <= impl.RnFuel; code++ {
		a := outcome(code, 5, memory(1, 2, 3), 9)
		expectSameOutcome(t, a, outcome(code, 5, memory(1, 2, 3), 9), true)
		for _, fuel := range []int{math.MinInt, -1, 0, 8, 10, impl.MaxFuel, impl.MaxFuel + 1, math.MaxInt} {
			expectSameOutcome(t, a, outcome(code, 5, memory(1, 2, 3), fuel), true)
		}
		for _, value := range []int64{math.MinInt64, -5, 0, 4, 6, 1<<32 + 5, math.MaxInt64} {
			expectSameOutcome(t, a, outcome(code, value, memory(1, 2, 3), 9), false)
		}
		for other := impl.RnReturn; other <= impl.RnFuel; other++ {
			expectSameOutcome(t, a, outcome(other, 5, memory(1, 2, 3), 9), other == code)
			expectSameOutcome(t, outcome(code, 0, noughts(), 0), outcome(other, 0, noughts(), 0), other == code)
		}
		for at := range impl.MemLong {
			mem := memory(1, 2, 3)
			mem[at] += 1 << 40
			expectSameOutcome(t, a, outcome(code, 5, mem, 9), false)
		}
	}
}

func TestOutcomesThatAreNotAsSaid(t *testing.T) {
	for _, code := range []int{math.MinInt, -3, -1, 0, 4, 5, 257, 1<<32 + 1, math.MaxInt} {
		expectNoOutcome(t, "a code", outcome(code, 0, noughts(), 0))
	}
	for long := range 3 * impl.MemLong {
		if long != impl.MemLong {
			expectNoOutcome(t, "a memory", outcome(impl.RnReturn, 0, make([]int64, long), 0))
			expectNoOutcome(t, "both", outcome(0, 0, make([]int64, long), 0))
		}
	}
	expectNoOutcome(t, "zero", impl.Outcome{})
	expectNoOutcome(t, "a long memory", outcome(impl.RnTrap, 0, make([]int64, 100000), 0))
	expectNoOutcome(t, "a piece of a memory", outcome(impl.RnReturn, 0, noughts()[:impl.MemLong-1], 0))
}

func TestOutcomesOfRunsAreHeldAgainstEachOther(t *testing.T) {
	r := rand.New(rand.NewSource(123))
	same := 0
	for range 3000 {
		f := anyFunc(r)
		args, mem := randomNumbers(r, f.Params), randomNumbers(r, impl.MemLong)
		a, _ := impl.RunFunc(f, args, mem, 20)
		b, _ := impl.RunFunc(changedRun(r, f, args, mem))
		want := a.Code == b.Code && a.Value == b.Value && slices.Equal(a.Mem, b.Mem)
		expectSameOutcome(t, a, b, want)
		if want {
			same++
		}
	}
	if same < 300 || same > 2700 {
		t.Errorf("%d of 3000 are the same: too few, or too many", same)
	}
}

func changedRun(r *rand.Rand, f impl.Func, args, mem []int64) (impl.Func, []int64, []int64, int) {
	mem = slices.Clone(mem)
	if r.Intn(2) == 0 {
		mem[r.Intn(len(mem))]++
	}
	return f, args, mem, 20 + r.Intn(2)
}

// funcWithTail hands a function over with more behind each of its lists.
func funcWithTail(f impl.Func) impl.Func {
	g := funcOf(f.Params)
	for _, b := range f.Blocks {
		var insts []impl.Inst
		for _, in := range b.Insts {
			in.Args = withNumbersBehind(in.Args)
			insts = append(insts, in)
		}
		var jumps []impl.Jump
		for _, j := range b.Jumps {
			j.Args = withNumbersBehind(j.Args)
			jumps = append(jumps, j)
		}
		b.Insts = append(insts, numInst(71), numInst(72))[:len(insts)]
		b.Jumps = append(jumps, jump(73), jump(74))[:len(jumps)]
		g.Blocks = append(g.Blocks, b)
	}
	g.Blocks = append(g.Blocks, impl.Block{Params: 75, End: 76})[:len(f.Blocks)]
	return g
}

func sameBlock(a, b impl.Block) bool {
	return a.Params == b.Params && a.End == b.End && a.Value == b.Value &&
		slices.EqualFunc(a.Insts, b.Insts, func(x, y impl.Inst) bool {
			return x.Op == y.Op && x.N == y.N && slices.Equal(x.Args, y.Args)
		}) &&
		slices.EqualFunc(a.Jumps, b.Jumps, func(x, y impl.Jump) bool { return x.To == y.To && slices.Equal(x.Args, y.Args) })
}

func sameFunc(f, g impl.Func) bool {
	return f.Params == g.Params && slices.EqualFunc(f.Blocks, g.Blocks, sameBlock)
}

// expectFuncTail wants f to be as funcWithTail made it of what it was.
func expectFuncTail(t *testing.T, what string, f, was impl.Func) {
	t.Helper()
	if !sameFunc(f, was) {
		t.Fatalf("%s: the function is %v, was %v", what, f, was)
	}
	if behind := f.Blocks[:len(f.Blocks)+1][len(f.Blocks)]; !sameBlock(behind, impl.Block{Params: 75, End: 76}) {
		t.Fatalf("%s: behind the blocks is %v", what, behind)
	}
	for _, b := range f.Blocks {
		insts, jumps := b.Insts[:len(b.Insts)+2][len(b.Insts):], b.Jumps[:len(b.Jumps)+2][len(b.Jumps):]
		if insts[0].N != 71 || insts[1].N != 72 || jumps[0].To != 73 || jumps[1].To != 74 {
			t.Fatalf("%s: behind the instructions are %v, behind the jumps %v", what, insts, jumps)
		}
		for _, in := range b.Insts {
			expectNumbersBehind(t, what, in.Args)
		}
		for _, j := range b.Jumps {
			expectNumbersBehind(t, what, j.Args)
		}
	}
}

func numbersWithTail(l []int64) []int64 {
	return append(slices.Clone(l), 71, 72, 73)[:len(l)]
}

func expectNumbersTail(t *testing.T, what string, l, was []int64) {
	t.Helper()
	if whole := l[:len(l)+3]; !slices.Equal(whole, append(slices.Clone(was), 71, 72, 73)) {
		t.Fatalf("%s: the numbers are %v, were %v", what, whole, was)
	}
}

func spoilWide(l []int64) {
	l = l[:cap(l)]
	for k := range l {
		l[k] = -99
	}
}

func expectNothingWideBehind(t *testing.T, what string, l []int64) {
	t.Helper()
	for _, n := range l[:cap(l)][len(l):] {
		if n != 0 {
			t.Errorf("%s: %d lies behind the numbers", what, n)
		}
	}
}

func funcsOfAllKinds() map[string]impl.Func {
	return map[string]impl.Func{
		"zero":            {},
		"no values":       funcOf(0, jumping(jump(0), 0)),
		"a sum":           sumTo(),
		"a turning":       turning(),
		"stores":          funcOf(2, jumping(jump(0), 0, inst(impl.OpStore, 0, 1), inst(impl.OpLoad, 0), inst(impl.OpAdd, 3, 1), inst(impl.OpStore, 0, 4))),
		"a store, a trap": funcOf(2, returning(0, 0, inst(impl.OpStore, 0, 1), inst(impl.OpDiv, 0, 3), inst(impl.OpStore, 0, 1))),
		"no end":          funcOf(1, impl.Block{}),
		"a bad arg":       funcOf(1, returning(0, 0, inst(impl.OpAdd, 0, 7))),
		"a bad jump":      funcOf(1, jumping(jump(1, 0, 0), 0), returning(0, 1)),
		"too many":        funcOf(1, slices.Repeat([]impl.Block{returning(0, 0)}, impl.MaxBlocks+1)...),
	}
}

func expectCodeChangesNothing(t *testing.T, what string, was impl.Func, r *rand.Rand) {
	t.Helper()
	f := funcWithTail(was)
	impl.GoodFunc(f)
	impl.CountValues(f)
	impl.CostOfFunc(f)
	for k := -1; k < 12; k++ {
		impl.FirstOf(f, k)
		args, _ := impl.ArgsOf(f, k)
		spoilNumbers(args)
	}
	argsWere, memWas := randomNumbers(r, max(was.Params, 0)), randomNumbers(r, impl.MemLong)
	if len(argsWere) > 1 {
		argsWere[0] = int64(r.Intn(impl.MemLong))
	}
	args, mem := numbersWithTail(argsWere), numbersWithTail(memWas)
	for _, fuel := range []int{-1, 0, 1, 7, impl.MaxFuel, impl.MaxFuel + 1} {
		o, _ := impl.RunFunc(f, args, mem, fuel)
		again, _ := impl.RunFunc(f, args, mem, fuel)
		impl.SameOutcome(o, again)
		expectNothingWideBehind(t, what, o.Mem)
		kept := slices.Clone(again.Mem)
		if spoilWide(o.Mem); !slices.Equal(again.Mem, kept) {
			t.Fatalf("%s: two outcomes share their memory", what)
		}
		spoilWide(again.Mem)
		expectNumbersTail(t, what, args, argsWere)
		expectNumbersTail(t, what, mem, memWas)
	}
	expectFuncTail(t, what, f, was)
}

func TestCodeChangesNothingThatIsHandedIn(t *testing.T) {
	r := rand.New(rand.NewSource(124))
	for name, was := range funcsOfAllKinds() {
		expectCodeChangesNothing(t, name, was, r)
	}
	for range 1000 {
		f := anyFunc(r)
		expectCodeChangesNothing(t, "any function", f, r)
		if changed := changedFunc(r, f); changed.Params < 1000 {
			expectCodeChangesNothing(t, "a changed one", changed, r)
		}
	}
}

func TestSameOutcomeChangesNothing(t *testing.T) {
	for long := range 2 * impl.MemLong {
		was := []int64{1, -2, 3, 4, 5, 6, 7, 8, 9, 10, 11, 12, 13, 14, 15, 16}[:long]
		a, b := outcome(impl.RnReturn, 4, numbersWithTail(was), 3), outcome(impl.RnTrap, 0, numbersWithTail(was), 3)
		impl.SameOutcome(a, a)
		impl.SameOutcome(a, b)
		impl.SameOutcome(b, outcome(impl.RnTrap, 0, noughts(), 3))
		expectNumbersTail(t, "SameOutcome", a.Mem, was)
		expectNumbersTail(t, "SameOutcome", b.Mem, was)
	}
}

// All lists of numbers are pieces of one, and the args are a piece of the memory.
func TestArgumentsThatShareTheirMemory(t *testing.T) {
	numbers := []int{0, 1, 2}
	f := funcOf(2,
		branching(0, impl.Jump{To: 1, Args: numbers[:2]}, impl.Jump{To: 1, Args: numbers[1:]}, 0, impl.Inst{Op: impl.OpStore, Args: numbers[:2]}),
		returning(5, 2, impl.Inst{Op: impl.OpIf, Args: numbers}))
	mem := []int64{3, 7, 1, 2, 5, 6, 8, 9}
	left := slices.Clone(mem)
	left[3] = 7
	expectRun(t, "a piece of the memory", f, mem[:2], mem, 4, outcome(impl.RnReturn, 7, left, 2))
	mem[0] = 1
	left = slices.Clone(mem)
	// The arg 1 itself is stored over where it lies in the memory, but not as an arg.
	other := funcOf(2, returning(4, 0, numInst(9), inst(impl.OpStore, 0, 2), inst(impl.OpAdd, 1, 1)))
	left[1] = 9
	expectRun(t, "an arg in the memory", other, mem[:2], mem, 4, outcome(impl.RnReturn, 14, left, 3))
	if !slices.Equal(mem, []int64{1, 7, 1, 2, 5, 6, 8, 9}) || !slices.Equal(numbers, []int{0, 1, 2}) {
		t.Error("the memory is", mem, "the numbers are", numbers)
	}
	same := outcome(impl.RnReturn, 1, mem, 0)
	expectSameOutcome(t, same, same, true)
}

func TestArgsOfAreNewMemory(t *testing.T) {
	f := funcOf(3, returning(3, 0, inst(impl.OpIf, 0, 1, 2), inst(impl.OpAdd, 3, 1), inst(impl.OpNeg, 4), numInst(6)))
	for value := range 7 {
		first, _ := impl.ArgsOf(f, value)
		second, _ := impl.ArgsOf(f, value)
		for _, k := range first[:cap(first)][len(first):] {
			if k != 0 {
				t.Errorf("%d lies behind the args of %d", k, value)
			}
		}
		expectListsApart(t, "ArgsOf", [][]int{first, second})
		spoilNumbers(first)
		expectArgs(t, f, value, second...)
	}
}

func TestCodeReadsNothingBehindTheLength(t *testing.T) {
	whole := []impl.Block{jumping(jump(1), 0), returning(0, 0), {Params: 99}}
	expectGoodFunc(t, "a piece of the blocks", funcOf(1, whole[:2]...))
	expectBadFunc(t, "a jump behind the blocks", funcOf(1, whole[:1]...))
	insts := []impl.Inst{numInst(5), numInst(6), inst(99)}
	expectReturn(t, "a piece of the instructions", funcOf(1, returning(2, 0, insts[:2]...)), []int64{4}, 1, 6, 0)
	expectBadFunc(t, "a value behind the instructions", funcOf(1, returning(2, 0, insts[:1]...)))
	jumps := []impl.Jump{jump(1), jump(2), jump(99)}
	expectGoodFunc(t, "a piece of the jumps", funcOf(1, impl.Block{End: impl.EndBranch, Jumps: jumps[:2]}, returning(0, 0), returning(0, 0)))
	expectBadFunc(t, "a jump too few", funcOf(1, impl.Block{End: impl.EndBranch, Jumps: jumps[:1]}, returning(0, 0), returning(0, 0)))
	args := []int{0, 0, 0, 99}
	expectGoodFunc(t, "a piece of the args", funcOf(1, returning(0, 0, impl.Inst{Op: impl.OpIf, Args: args[:3]})))
	expectBadFunc(t, "an arg too few", funcOf(1, returning(0, 0, impl.Inst{Op: impl.OpIf, Args: args[:2]})))
	numbers := slices.Repeat([]int64{4}, 20)
	f := funcOf(1, returning(0, 0))
	expectRun(t, "pieces of numbers", f, numbers[:1], numbers[:impl.MemLong], 1, outcome(impl.RnReturn, 4, numbers[:impl.MemLong], 0))
	expectNoRun(t, "too few numbers", f, numbers[:1], numbers[:impl.MemLong-1], 1)
	expectNoRun(t, "too few args", f, numbers[:0], numbers[:impl.MemLong], 1)
}

// Nothing is kept from run to run.
func TestTheSameRunHasTheSameOutcome(t *testing.T) {
	r := rand.New(rand.NewSource(125))
	for range 300 {
		f, g := anyFunc(r), anyFunc(r)
		args, mem := randomNumbers(r, f.Params), randomNumbers(r, impl.MemLong)
		want, _ := impl.RunFunc(f, args, mem, 50)
		for range 3 {
			impl.RunFunc(g, randomNumbers(r, g.Params), randomNumbers(r, impl.MemLong), 50)
			expectRun(t, "again", f, args, mem, 50, want)
		}
	}
}
