package impl

import "strconv"

// The ops start at 1, so that a zero Op is none.
const (
	OpNum = iota + 1
	OpVar
	OpNeg
	OpAdd
	OpSub
	OpMul
	OpShl
	OpDiv
	OpEq
	OpLess
	OpIf
)

// The least number has the longest text: a sign and 19 digits.
const longestNum = 20

const mostTimes = 64

var arities = [OpIf + 1]int{
	OpNum:  0,
	OpVar:  0,
	OpNeg:  1,
	OpAdd:  2,
	OpSub:  2,
	OpMul:  2,
	OpShl:  2,
	OpDiv:  2,
	OpEq:   2,
	OpLess: 2,
	OpIf:   3,
}

func ArityOf(op int) (int, bool) {
	if op < OpNum || op > OpIf {
		return 0, false
	}
	return arities[op], true
}

func DoOp(op int, args []int64) (int64, bool, bool) {
	n, ok := ArityOf(op)
	if !ok || op < OpNeg || len(args) != n {
		return 0, false, false
	}
	switch op {
	case OpNeg:
		return -args[0], false, true
	case OpDiv:
		value, traps := quotient(args[0], args[1])
		return value, traps, true
	case OpIf:
		return chosen(args[0], args[1], args[2]), false, true
	}
	return doPlainPair(op, args[0], args[1]), false, true
}

func doPlainPair(op int, a int64, b int64) int64 {
	switch op {
	case OpAdd:
		return a + b
	case OpSub:
		return a - b
	case OpMul:
		return a * b
	case OpShl:
		// The low bits are b modulo 64 below 0 too, where % would have b's sign.
		return a << (uint64(b) & 63)
	case OpEq:
		return oneWhere(a == b)
	}
	return oneWhere(a < b)
}

func quotient(a int64, b int64) (int64, bool) {
	if b == 0 {
		return 0, true
	}
	// Go's own quotient rounds towards 0, and the least number by -1 wraps to itself.
	return a / b, false
}

func oneWhere(holds bool) int64 {
	if holds {
		return 1
	}
	return 0
}

func chosen(a int64, b int64, c int64) int64 {
	if a != 0 {
		return b
	}
	return c
}

func PowerOf(a int64, n int) (int64, bool) {
	if n < 0 || n > mostTimes {
		return 0, false
	}
	power := int64(1)
	for range n {
		power *= a
	}
	return power, true
}

func OddInverse(a int64) (int64, bool) {
	if a&1 == 0 {
		return 0, false
	}
	// An odd number is its own inverse in the lowest 3 bits, and each of
	// Newton's steps makes twice as many bits right: 6, 12, 24, 48, 96.
	inverse := a
	for range 5 {
		inverse *= 2 - a*inverse
	}
	return inverse, true
}

func NumText(n int64) string {
	return strconv.FormatInt(n, 10)
}

func ReadNum(s string) (int64, bool) {
	if len(s) > longestNum {
		return 0, false
	}
	n, err := strconv.ParseInt(s, 10, 64)
	// ParseInt also takes a plus, noughts ahead and a nought below 0.
	if err != nil || NumText(n) != s {
		return 0, false
	}
	return n, true
}
