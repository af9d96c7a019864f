package tests

import (
	"math"
	"math/big"
	"slices"
	"strings"
	"testing"

	"loop.example/g00694/impl"
)

var wrapNumbers = []int64{
	math.MinInt64, math.MinInt64 + 1, math.MinInt64 + 2, math.MinInt64 / 2, math.MinInt64/2 - 1,
	-6148914691236517205, -4294967297, -4294967296, -3037000500, -1000, -65, -64, -63, -8, -7, -3, -2, -1,
	0, 1, 2, 3, 5, 7, 10, 62, 63, 64, 65, 127, 128, 1000, 3037000500, 4294967295, 4294967296,
	6148914691236517205, math.MaxInt64/2 + 1, math.MaxInt64/2 + 2, math.MaxInt64 - 1, math.MaxInt64,
}

// wrapped is reckoned without Go's own wrap-round, which is what the program leans on.
func wrapped(n *big.Int) int64 {
	half := new(big.Int).Lsh(big.NewInt(1), 63)
	whole := new(big.Int).Lsh(big.NewInt(1), 64)
	r := new(big.Int).Add(n, half)
	r.Mod(r, whole)
	return r.Sub(r, half).Int64()
}

func expectOp(t *testing.T, op int, args []int64, want int64, wantTraps bool) {
	t.Helper()
	n, traps, ok := impl.DoOp(op, args)
	if n != want || traps != wantTraps || !ok {
		t.Errorf("DoOp(%d, %v) = %d, %v, %v, want %d, %v, true", op, args, n, traps, ok, want, wantTraps)
	}
}

func expectNoOp(t *testing.T, op int, args []int64) {
	t.Helper()
	n, traps, ok := impl.DoOp(op, args)
	if n != 0 || traps || ok {
		t.Errorf("DoOp(%d, %v) = %d, %v, %v, want the zero answer", op, args, n, traps, ok)
	}
}

func TestOpsAreNumberedFromOne(t *testing.T) {
	ops := []int{impl.OpNum, impl.OpVar, impl.OpNeg, impl.OpAdd, impl.OpSub, impl.OpMul, impl.OpShl, impl.OpDiv, impl.OpEq, impl.OpLess, impl.OpIf}
	if !slices.Equal(ops, []int{1, 2, 3, 4, 5, 6, 7, 8, 9, 10, 11}) {
		t.Error("ops", ops)
	}
}

func TestArityOf(t *testing.T) {
	want := []int{0, 0, 1, 2, 2, 2, 2, 2, 2, 2, 3}
	for i, w := range want {
		if n, ok := impl.ArityOf(i + 1); n != w || !ok {
			t.Errorf("ArityOf(%d) = %d, %v, want %d, true", i+1, n, ok, w)
		}
	}
	for _, op := range []int{math.MinInt, -11, -1, 0, 12, 13, 255, 257, math.MaxInt} {
		if n, ok := impl.ArityOf(op); n != 0 || ok {
			t.Errorf("ArityOf(%d) = %d, %v, want 0, false", op, n, ok)
		}
	}
}

func TestSumsAndProductsWrap(t *testing.T) {
	for _, a := range wrapNumbers {
		x := big.NewInt(a)
		expectOp(t, impl.OpNeg, []int64{a}, wrapped(new(big.Int).Neg(x)), false)
		for _, b := range wrapNumbers {
			y := big.NewInt(b)
			args := []int64{a, b}
			expectOp(t, impl.OpAdd, args, wrapped(new(big.Int).Add(x, y)), false)
			expectOp(t, impl.OpSub, args, wrapped(new(big.Int).Sub(x, y)), false)
			expectOp(t, impl.OpMul, args, wrapped(new(big.Int).Mul(x, y)), false)
		}
	}
}

func TestSumsAndProductsAtTheEnds(t *testing.T) {
	const least, greatest = math.MinInt64, math.MaxInt64
	expectOp(t, impl.OpNeg, []int64{least}, least, false)
	expectOp(t, impl.OpNeg, []int64{greatest}, least+1, false)
	expectOp(t, impl.OpAdd, []int64{greatest, 1}, least, false)
	expectOp(t, impl.OpAdd, []int64{least, -1}, greatest, false)
	expectOp(t, impl.OpAdd, []int64{least, least}, 0, false)
	expectOp(t, impl.OpSub, []int64{least, 1}, greatest, false)
	expectOp(t, impl.OpSub, []int64{0, least}, least, false)
	expectOp(t, impl.OpMul, []int64{least, -1}, least, false)
	expectOp(t, impl.OpMul, []int64{greatest, greatest}, 1, false)
	expectOp(t, impl.OpMul, []int64{greatest, 2}, -2, false)
}

func TestShiftIsModuloSixtyFour(t *testing.T) {
	shifts := slices.Concat(wrapNumbers, []int64{-129, -128, -127, -66, -62, 31, 32, 33, 66, 126, 129})
	for _, a := range wrapNumbers {
		for _, b := range shifts {
			by := new(big.Int).Mod(big.NewInt(b), big.NewInt(64)).Uint64()
			want := wrapped(new(big.Int).Lsh(big.NewInt(a), uint(by)))
			expectOp(t, impl.OpShl, []int64{a, b}, want, false)
		}
	}
	expectOp(t, impl.OpShl, []int64{3, -1}, math.MinInt64, false)
	expectOp(t, impl.OpShl, []int64{3, -64}, 3, false)
	expectOp(t, impl.OpShl, []int64{3, -63}, 6, false)
	expectOp(t, impl.OpShl, []int64{3, 64}, 3, false)
	expectOp(t, impl.OpShl, []int64{1, 63}, math.MinInt64, false)
	expectOp(t, impl.OpShl, []int64{1, math.MinInt64}, 1, false)
	expectOp(t, impl.OpShl, []int64{1, math.MaxInt64}, math.MinInt64, false)
}

func TestQuotientsRoundTowardsNoughtAndTrap(t *testing.T) {
	for _, a := range wrapNumbers {
		for _, b := range wrapNumbers {
			if b == 0 {
				expectOp(t, impl.OpDiv, []int64{a, b}, 0, true)
				continue
			}
			want := wrapped(new(big.Int).Quo(big.NewInt(a), big.NewInt(b)))
			expectOp(t, impl.OpDiv, []int64{a, b}, want, false)
		}
	}
	expectOp(t, impl.OpDiv, []int64{7, -2}, -3, false)
	expectOp(t, impl.OpDiv, []int64{-7, 2}, -3, false)
	expectOp(t, impl.OpDiv, []int64{-7, -2}, 3, false)
	expectOp(t, impl.OpDiv, []int64{-1, 2}, 0, false)
	expectOp(t, impl.OpDiv, []int64{0, 0}, 0, true)
	expectOp(t, impl.OpDiv, []int64{math.MinInt64, 0}, 0, true)
	expectOp(t, impl.OpDiv, []int64{math.MinInt64, -1}, math.MinInt64, false)
}

func TestComparisonsAndChoices(t *testing.T) {
	for _, a := range wrapNumbers {
		for _, b := range wrapNumbers {
			var same, less int64
			switch big.NewInt(a).Cmp(big.NewInt(b)) {
			case 0:
				same = 1
			case -1:
				less = 1
			}
			expectOp(t, impl.OpEq, []int64{a, b}, same, false)
			expectOp(t, impl.OpLess, []int64{a, b}, less, false)
		}
		want := int64(-17)
		if a == 0 {
			want = 23
		}
		expectOp(t, impl.OpIf, []int64{a, -17, 23}, want, false)
	}
	expectOp(t, impl.OpLess, []int64{math.MinInt64, math.MaxInt64}, 1, false)
	expectOp(t, impl.OpLess, []int64{math.MaxInt64, math.MinInt64}, 0, false)
	expectOp(t, impl.OpIf, []int64{0, math.MaxInt64, math.MinInt64}, math.MinInt64, false)
	expectOp(t, impl.OpIf, []int64{math.MinInt64, math.MaxInt64, 0}, math.MaxInt64, false)
}

func TestDoOpOfWrongArguments(t *testing.T) {
	all := []int64{7, 0, 5, 6}
	for _, op := range []int{math.MinInt, -4, -1, 0, impl.OpNum, impl.OpVar, 12, 13, 260, math.MaxInt} {
		expectNoOp(t, op, nil)
		for n := range len(all) + 1 {
			expectNoOp(t, op, all[:n])
		}
	}
	want := []int{1, 2, 2, 2, 2, 2, 2, 2, 3}
	for i, arity := range want {
		op := impl.OpNeg + i
		expectNoOp(t, op, nil)
		for n := range len(all) + 1 {
			// What lies behind the length would make up for what is missing.
			if n != arity {
				expectNoOp(t, op, all[:n])
			}
		}
		expectNoOp(t, op, make([]int64, 1000))
	}
}

func TestDoOpLeavesItsListAsItIs(t *testing.T) {
	// The first one has no number that is its own negative or half, so that any write shows.
	lists := [][]int64{{7, -3, 5, 9, 11}, {math.MinInt64, -1, 0, 9, 11}, {0, 0, 0, 0, 0}}
	for op := -1; op <= 14; op++ {
		for _, kept := range lists {
			for n := range kept {
				list := slices.Clone(kept)
				impl.DoOp(op, list[:n])
				if !slices.Equal(list, kept) {
					t.Errorf("DoOp(%d, %v) made %v of its list", op, kept[:n], list)
				}
			}
		}
	}
}

func TestPowerOf(t *testing.T) {
	for _, a := range wrapNumbers {
		for n := 0; n <= 64; n++ {
			want := wrapped(new(big.Int).Exp(big.NewInt(a), big.NewInt(int64(n)), nil))
			if p, ok := impl.PowerOf(a, n); p != want || !ok {
				t.Errorf("PowerOf(%d, %d) = %d, %v, want %d, true", a, n, p, ok, want)
			}
		}
	}
	for _, c := range []struct {
		a    int64
		n    int
		want int64
	}{{0, 0, 1}, {0, 1, 0}, {0, 64, 0}, {-1, 64, 1}, {-1, 63, -1}, {2, 62, 4611686018427387904}, {2, 63, math.MinInt64}, {2, 64, 0}, {-2, 63, math.MinInt64}, {math.MinInt64, 0, 1}, {math.MinInt64, 1, math.MinInt64}, {math.MinInt64, 2, 0}, {math.MaxInt64, 64, 1}} {
		if p, ok := impl.PowerOf(c.a, c.n); p != c.want || !ok {
			t.Errorf("PowerOf(%d, %d) = %d, %v, want %d, true", c.a, c.n, p, ok, c.want)
		}
	}
	for _, n := range []int{math.MinInt, -64, -1, 65, 128, 1 << 32, math.MaxInt} {
		for _, a := range wrapNumbers {
			if p, ok := impl.PowerOf(a, n); p != 0 || ok {
				t.Errorf("PowerOf(%d, %d) = %d, %v, want 0, false", a, n, p, ok)
			}
		}
	}
}

func TestOddInverse(t *testing.T) {
	var odd []int64
	for a := int64(-2001); a <= 2001; a += 2 {
		odd = append(odd, a, a+math.MinInt64, a*4294967296+1, a*6364136223846793005)
	}
	for _, a := range wrapNumbers {
		odd = append(odd, a|1)
	}
	for _, a := range odd {
		b, ok := impl.OddInverse(a)
		if product := wrapped(new(big.Int).Mul(big.NewInt(a), big.NewInt(b))); product != 1 || !ok {
			t.Errorf("OddInverse(%d) = %d, %v: the product is %d", a, b, ok, product)
		}
	}
	for _, a := range odd {
		even := a - 1
		if b, ok := impl.OddInverse(even); b != 0 || ok {
			t.Errorf("OddInverse(%d) = %d, %v, want 0, false", even, b, ok)
		}
	}
}

func TestNumTextIsReadBack(t *testing.T) {
	numbers := slices.Clone(wrapNumbers)
	for n := int64(1); n < 1000000000000000000; n *= 10 {
		numbers = append(numbers, n-1, n, n+1, -n-1, -n, 10*n-1, 1-10*n)
	}
	for _, n := range numbers {
		text := impl.NumText(n)
		if want := big.NewInt(n).String(); text != want {
			t.Errorf("NumText(%d) = %q, want %q", n, text, want)
		}
		if back, ok := impl.ReadNum(text); back != n || !ok {
			t.Errorf("ReadNum(%q) = %d, %v, want %d, true", text, back, ok, n)
		}
	}
}

func TestNumTextAndReadNumAtTheEdges(t *testing.T) {
	for n, text := range map[int64]string{
		0:             "0",
		-1:            "-1",
		10:            "10",
		-17:           "-17",
		math.MinInt64: "-9223372036854775808",
		math.MaxInt64: "9223372036854775807",
	} {
		if s := impl.NumText(n); s != text {
			t.Errorf("NumText(%d) = %q, want %q", n, s, text)
		}
		if back, ok := impl.ReadNum(text); back != n || !ok {
			t.Errorf("ReadNum(%q) = %d, %v, want %d, true", text, back, ok, n)
		}
	}
}

func TestReadNumOfTextsOfNoNumber(t *testing.T) {
	texts := []string{
		"", "-", "+", "-0", "+0", "00", "-00", "007", "-007", "-01", "+1", "--1", "-+1", "1-", "1+1",
		" ", " 1", "1 ", "- 1", "1\n", "\t1", "\x00", "1\x00", "a", "x", "1a", "0x10", "0b1", "0o7", "1e3", "1.0", "1.", ".5",
		"1_000", "1,000", "\xff", "1\xff", "\xef\xbc\x91", "\xd9\xa1", "\xe2\x88\x921", "inf", "NaN", "/", ":",
		"9223372036854775808", "-9223372036854775809", "9999999999999999999", "-9999999999999999999",
		"18446744073709551615", "18446744073709551616", "18446744073709551617", "99999999999999999999",
		"00000000000000000001", "-0000000000000000001", "09223372036854775807", "+9223372036854775807",
		"000000000000000000001", "-09223372036854775808", "-92233720368547758080", "100000000000000000000",
		"340282366920938463463374607431768211457", strings.Repeat("0", 21), strings.Repeat("9", 100000), "-" + strings.Repeat("1", 100000),
	}
	for _, s := range texts {
		if n, ok := impl.ReadNum(s); n != 0 || ok {
			t.Errorf("ReadNum(%.40q) = %d, %v, want 0, false", s, n, ok)
		}
	}
}
