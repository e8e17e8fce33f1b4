package impl

const MaxNames = 150
const Prime = 1000003

const (
	OpConst = iota + 1
	OpCopy
	OpAdd
	OpSub
	OpMul
	OpLess
	OpEmit
)

type Ins struct {
	Op  int64
	Var int64
	A   int64
	B   int64
}

// noVar is the Var of an instruction that gives no name a value.
const noVar = -1

// notReckoned is no value, so it cannot be mistaken for a result.
const notReckoned = -1

type reckoner func(a int64, b int64) int64

func isName(n int64) bool { return n >= 0 && n < MaxNames }

func isValue(v int64) bool { return v >= 0 && v < Prime }

func InsOk(i Ins) bool {
	switch i.Op {
	case OpConst:
		return isName(i.Var) && isValue(i.A) && i.B == 0
	case OpCopy:
		return isName(i.Var) && isName(i.A) && i.B == 0
	case OpAdd, OpSub, OpMul, OpLess:
		return isName(i.Var) && isName(i.A) && isName(i.B)
	case OpEmit:
		return i.Var == noVar && isName(i.A) && i.B == 0
	}
	return false
}

func UsesOf(i Ins) []int64 {
	if !InsOk(i) {
		return []int64{}
	}
	switch i.Op {
	case OpCopy, OpEmit:
		return []int64{i.A}
	case OpAdd, OpSub, OpMul, OpLess:
		return []int64{i.A, i.B}
	}
	return []int64{}
}

func Reckoned(op int64, a int64, b int64) int64 {
	if op < OpAdd || op > OpLess || !isValue(a) || !isValue(b) {
		return notReckoned
	}
	return reckoners()[op-OpAdd](a, b)
}

// reckoners stand in the order of their operations, from OpAdd on.
func reckoners() [OpLess - OpAdd + 1]reckoner {
	return [...]reckoner{sum, difference, product, less}
}

func sum(a int64, b int64) int64 { return (a + b) % Prime }

// difference adds Prime first, as % of a number below 0 is not above 0.
func difference(a int64, b int64) int64 { return (a - b + Prime) % Prime }

func product(a int64, b int64) int64 { return a * b % Prime }

func less(a int64, b int64) int64 {
	if a < b {
		return 1
	}
	return 0
}
