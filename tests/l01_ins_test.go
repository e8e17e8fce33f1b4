package tests

import (
	"fmt"
	"math"
	"math/big"
	"math/rand"
	"slices"
	"testing"

	"loop.example/g00823/impl"
)

const lastName = impl.MaxNames - 1
const lastValue = impl.Prime - 1

func ins(op int64, name int64, a int64, b int64) impl.Ins {
	return impl.Ins{Op: op, Var: name, A: a, B: b}
}

func TestConstantsOfInstructions(t *testing.T) {
	got := []int64{impl.MaxNames, impl.Prime, impl.OpConst, impl.OpCopy, impl.OpAdd, impl.OpSub, impl.OpMul, impl.OpLess, impl.OpEmit}
	want := []int64{150, 1000003, 1, 2, 3, 4, 5, 6, 7}
	if !slices.Equal(got, want) {
		t.Errorf("constants are %v, want %v", got, want)
	}
}

func TestRightInstructions(t *testing.T) {
	for _, c := range []struct {
		i    impl.Ins
		uses []int64
	}{
		{ins(impl.OpConst, 3, 77, 0), nil},
		{ins(impl.OpConst, 0, 0, 0), nil},
		{ins(impl.OpConst, lastName, lastValue, 0), nil},
		{ins(impl.OpConst, 0, lastName, 0), nil},
		{ins(impl.OpConst, 0, impl.MaxNames, 0), nil},
		{ins(impl.OpCopy, 3, 7, 0), []int64{7}},
		{ins(impl.OpCopy, 3, 3, 0), []int64{3}},
		{ins(impl.OpCopy, 0, lastName, 0), []int64{lastName}},
		{ins(impl.OpCopy, lastName, 0, 0), []int64{0}},
		{ins(impl.OpAdd, 1, 2, 3), []int64{2, 3}},
		{ins(impl.OpAdd, 1, 3, 2), []int64{3, 2}},
		{ins(impl.OpAdd, 0, 0, 0), []int64{0, 0}},
		{ins(impl.OpAdd, lastName, lastName, lastName), []int64{lastName, lastName}},
		{ins(impl.OpSub, 5, 9, 9), []int64{9, 9}},
		{ins(impl.OpSub, 5, 9, 0), []int64{9, 0}},
		{ins(impl.OpMul, 6, lastName, 0), []int64{lastName, 0}},
		{ins(impl.OpLess, 6, 0, lastName), []int64{0, lastName}},
		{ins(impl.OpEmit, -1, 4, 0), []int64{4}},
		{ins(impl.OpEmit, -1, 0, 0), []int64{0}},
		{ins(impl.OpEmit, -1, lastName, 0), []int64{lastName}},
	} {
		if !impl.InsOk(c.i) {
			t.Errorf("InsOk(%v) is false", c.i)
		}
		if got := impl.UsesOf(c.i); !slices.Equal(got, c.uses) {
			t.Errorf("UsesOf(%v) is %v, want %v", c.i, got, c.uses)
		}
	}
}

func wrongInstructions() []impl.Ins {
	wrong := []impl.Ins{
		{},
		ins(impl.OpConst, -1, 0, 0),
		ins(impl.OpConst, impl.MaxNames, 0, 0),
		ins(impl.OpConst, 0, -1, 0),
		ins(impl.OpConst, 0, impl.Prime, 0),
		ins(impl.OpConst, 0, 0, 1),
		ins(impl.OpConst, 0, 0, -1),
		ins(impl.OpCopy, -1, 0, 0),
		ins(impl.OpCopy, impl.MaxNames, 0, 0),
		ins(impl.OpCopy, 0, -1, 0),
		ins(impl.OpCopy, 0, impl.MaxNames, 0),
		ins(impl.OpCopy, 0, 0, 1),
		ins(impl.OpCopy, 0, 0, -1),
		ins(impl.OpEmit, 0, 0, 0),
		ins(impl.OpEmit, 1, 0, 0),
		ins(impl.OpEmit, -2, 0, 0),
		ins(impl.OpEmit, lastName, 0, 0),
		ins(impl.OpEmit, -1, -1, 0),
		ins(impl.OpEmit, -1, impl.MaxNames, 0),
		ins(impl.OpEmit, -1, 0, 1),
		ins(impl.OpEmit, -1, 0, -1),
	}
	for op := int64(impl.OpAdd); op <= impl.OpLess; op++ {
		for _, past := range []int64{-1, impl.MaxNames} {
			wrong = append(wrong, ins(op, past, 0, 0), ins(op, 0, past, 0), ins(op, 0, 0, past))
		}
	}
	for op := int64(impl.OpConst); op <= impl.OpEmit; op++ {
		name := int64(0)
		if op == impl.OpEmit {
			name = -1
		}
		for _, far := range farNumbers {
			wrong = append(wrong, ins(op, far, 0, 0), ins(op, name, far, 0), ins(op, name, 0, far))
			wrong = append(wrong, ins(op+far, name, 0, 0))
		}
	}
	for _, op := range append([]int64{-1, 0, impl.OpEmit + 1}, farNumbers...) {
		wrong = append(wrong, ins(op, 0, 0, 0), ins(op, -1, 0, 0), ins(op, 1, 2, 3))
	}
	return wrong
}

func TestWrongInstructions(t *testing.T) {
	for _, i := range wrongInstructions() {
		if impl.InsOk(i) {
			t.Errorf("InsOk(%v) is true", i)
		}
		if got := impl.UsesOf(i); len(got) != 0 {
			t.Errorf("UsesOf(%v) is %v, want nothing", i, got)
		}
	}
}

// span is what a field may hold, both ends with it.
type span struct{ low, high int64 }

// spansOf has Var, A and B of each operation, as chapter 1 tells them.
func spansOf(op int64) ([3]span, bool) {
	name, value, none := span{0, 149}, span{0, 1000002}, span{0, 0}
	spans, ok := map[int64][3]span{
		1: {name, value, none},
		2: {name, name, none},
		3: {name, name, name},
		4: {name, name, name},
		5: {name, name, name},
		6: {name, name, name},
		7: {{-1, -1}, name, none},
	}[op]
	return spans, ok
}

func insRight(i impl.Ins) bool {
	spans, ok := spansOf(i.Op)
	for at, field := range []int64{i.Var, i.A, i.B} {
		ok = ok && field >= spans[at].low && field <= spans[at].high
	}
	return ok
}

func usesRight(i impl.Ins) []int64 {
	count := map[int64]int{2: 1, 3: 2, 4: 2, 5: 2, 6: 2, 7: 1}[i.Op]
	if !insRight(i) {
		count = 0
	}
	return []int64{i.A, i.B}[:count]
}

func TestAllEdgesOfInstructions(t *testing.T) {
	fields := append([]int64{-2, -1, 0, 1, 148, 149, 150, 151, 1000001, 1000002, 1000003, 1000004}, farNumbers...)
	ops := append([]int64{-1, 0, 1, 2, 3, 4, 5, 6, 7, 8}, farNumbers...)
	right := 0
	for _, op := range ops {
		for _, name := range fields {
			for _, a := range fields {
				for _, b := range fields {
					right += checkIns(t, ins(op, name, a, b))
				}
			}
		}
	}
	// 4 names and 8 values are among the fields.
	if want := 4*8 + 4*4 + 4*4*4*4 + 4; right != want {
		t.Errorf("%d instructions are right, want %d", right, want)
	}
}

func checkIns(t *testing.T, i impl.Ins) int {
	t.Helper()
	ok := impl.InsOk(i)
	if ok != insRight(i) {
		t.Errorf("InsOk(%v) is %v", i, ok)
	}
	if got, want := impl.UsesOf(i), usesRight(i); !slices.Equal(got, want) {
		t.Errorf("UsesOf(%v) is %v, want %v", i, got, want)
	}
	if ok {
		return 1
	}
	return 0
}

func TestReckonedOrdinary(t *testing.T) {
	for _, c := range []struct{ op, a, b, want int64 }{
		{impl.OpAdd, 2, 3, 5},
		{impl.OpAdd, 0, 0, 0},
		{impl.OpAdd, 0, lastValue, lastValue},
		{impl.OpAdd, lastValue, 0, lastValue},
		{impl.OpAdd, lastValue - 1, 1, lastValue},
		{impl.OpAdd, lastValue, 1, 0},
		{impl.OpAdd, 1, lastValue, 0},
		{impl.OpAdd, lastValue, 2, 1},
		{impl.OpAdd, lastValue, lastValue, 1000001},
		{impl.OpSub, 7, 3, 4},
		{impl.OpSub, 3, 7, 999999},
		{impl.OpSub, 0, 0, 0},
		{impl.OpSub, 5, 5, 0},
		{impl.OpSub, 6, 5, 1},
		{impl.OpSub, 5, 6, lastValue},
		{impl.OpSub, 0, 1, lastValue},
		{impl.OpSub, 0, lastValue, 1},
		{impl.OpSub, lastValue, 0, lastValue},
		{impl.OpSub, lastValue, lastValue, 0},
		{impl.OpMul, 6, 7, 42},
		{impl.OpMul, 0, lastValue, 0},
		{impl.OpMul, 1, lastValue, lastValue},
		{impl.OpMul, lastValue, 2, 1000001},
		{impl.OpMul, lastValue, lastValue, 1},
		{impl.OpMul, 1000, 1000, 1000000},
		{impl.OpMul, 1000, 1001, 997},
		{impl.OpMul, 2, 500001, 1000002},
		{impl.OpMul, 2, 500002, 1},
		{impl.OpLess, 3, 5, 1},
		{impl.OpLess, 5, 3, 0},
		{impl.OpLess, 5, 5, 0},
		{impl.OpLess, 0, 0, 0},
		{impl.OpLess, 0, 1, 1},
		{impl.OpLess, 0, lastValue, 1},
		{impl.OpLess, lastValue, 0, 0},
		{impl.OpLess, lastValue, lastValue, 0},
		{impl.OpLess, lastValue - 1, lastValue, 1},
	} {
		if got := impl.Reckoned(c.op, c.a, c.b); got != c.want {
			t.Errorf("Reckoned(%d, %d, %d) is %d, want %d", c.op, c.a, c.b, got, c.want)
		}
	}
}

// reckonedRight reckons with numbers of any length, so that nothing wraps around.
func reckonedRight(op int64, a int64, b int64) int64 {
	if a < 0 || a > 1000002 || b < 0 || b > 1000002 {
		return -1
	}
	x, y, r := big.NewInt(a), big.NewInt(b), new(big.Int)
	switch op {
	case 3:
		r.Add(x, y)
	case 4:
		r.Sub(x, y)
	case 5:
		r.Mul(x, y)
	case 6:
		return int64(max(-x.Cmp(y), 0))
	default:
		return -1
	}
	return r.Mod(r, big.NewInt(1000003)).Int64()
}

func checkReckoned(t *testing.T, op int64, a int64, b int64) {
	t.Helper()
	got := impl.Reckoned(op, a, b)
	if want := reckonedRight(op, a, b); got != want {
		t.Errorf("Reckoned(%d, %d, %d) is %d, want %d", op, a, b, got, want)
	}
	if got < -1 || got >= impl.Prime {
		t.Errorf("Reckoned(%d, %d, %d) is %d, which is no value", op, a, b, got)
	}
}

func TestReckonedAtAllEdges(t *testing.T) {
	operands := append([]int64{-2, -1, 0, 1, 2, 997, 1000, 1001, 500001, 500002, 1000001, 1000002, 1000003, 1000004}, farNumbers...)
	ops := append([]int64{-1, 0, 1, 2, 3, 4, 5, 6, 7, 8, 9}, farNumbers...)
	for _, op := range ops {
		for _, a := range operands {
			for _, b := range operands {
				checkReckoned(t, op, a, b)
			}
		}
	}
}

func TestReckonedAtMany(t *testing.T) {
	r := rand.New(rand.NewSource(1))
	for range 200000 {
		checkReckoned(t, 3+r.Int63n(4), r.Int63n(1000003), r.Int63n(1000003))
	}
}

func TestReckonedRefuses(t *testing.T) {
	outside := append([]int64{-1, impl.Prime}, farNumbers...)
	for op := int64(impl.OpAdd); op <= impl.OpLess; op++ {
		for _, x := range outside {
			for _, pair := range [][2]int64{{x, 1}, {1, x}, {x, x}} {
				if got := impl.Reckoned(op, pair[0], pair[1]); got != -1 {
					t.Errorf("Reckoned(%d, %d, %d) is %d, want -1", op, pair[0], pair[1], got)
				}
			}
		}
	}
	for _, op := range append([]int64{-1, 0, impl.OpConst, impl.OpCopy, impl.OpEmit, impl.OpEmit + 1}, farNumbers...) {
		if got := impl.Reckoned(op, 1, 2); got != -1 {
			t.Errorf("Reckoned(%d, 1, 2) is %d, want -1", op, got)
		}
	}
}

func TestInstructionsDoNotPanic(t *testing.T) {
	numbers := append([]int64{-1, 0, 1, 3, 6, 7, 8, lastName, impl.MaxNames, lastValue, impl.Prime}, farNumbers...)
	r := rand.New(rand.NewSource(2))
	pick := func() int64 {
		if r.Intn(4) == 0 {
			return int64(r.Uint64())
		}
		return numbers[r.Intn(len(numbers))]
	}
	for range 100000 {
		i := ins(pick(), pick(), pick(), pick())
		wantNoPanic(t, fmt.Sprintf("InsOk, UsesOf and Reckoned of %v", i), func() {
			impl.InsOk(i)
			impl.UsesOf(i)
			impl.Reckoned(i.Op, i.A, i.B)
		})
	}
	wantNoPanic(t, "smallest by smallest", func() { impl.Reckoned(impl.OpMul, math.MinInt64, math.MinInt64) })
}

func TestUsesAreNewMemory(t *testing.T) {
	for _, i := range []impl.Ins{
		{},
		ins(impl.OpConst, 1, 2, 0),
		ins(impl.OpCopy, 1, 2, 0),
		ins(impl.OpAdd, 1, 2, 3),
		ins(impl.OpSub, 1, 2, 2),
		ins(impl.OpMul, 1, 2, 3),
		ins(impl.OpLess, 1, 2, 3),
		ins(impl.OpEmit, -1, 2, 0),
		ins(impl.OpAdd, 1, 2, impl.MaxNames),
	} {
		wantNewMemory(t, fmt.Sprintf("UsesOf(%v)", i), func() []int64 { return impl.UsesOf(i) })
	}
}
