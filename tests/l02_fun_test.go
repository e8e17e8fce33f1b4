package tests

import (
	"fmt"
	"math/rand"
	"slices"
	"testing"

	"loop.example/g00823/impl"
)

const lastBlock = impl.MaxBlocks - 1

func ret(a int64) impl.End { return impl.End{Kind: impl.EdRet, A: a} }

func jump(to int64) impl.End { return impl.End{Kind: impl.EdJump, To: to} }

func branch(a int64, to int64, other int64) impl.End {
	return impl.End{Kind: impl.EdIf, A: a, To: to, Else: other}
}

func phi(name int64, args ...int64) impl.Phi { return impl.Phi{Var: name, Args: args} }

func move(to int64, from int64) impl.Move { return impl.Move{To: to, From: from} }

// funOf is a function of empty blocks with these ends.
func funOf(names int64, ends ...impl.End) impl.Fun {
	f := impl.Fun{Names: names, Blocks: make([]impl.Block, len(ends))}
	for at, e := range ends {
		f.Blocks[at].End = e
	}
	return f
}

// fullFun has some of all that a function may have; its block 4 is led to by nothing.
func fullFun() impl.Fun {
	f := funOf(10, branch(1, 1, 2), jump(3), branch(4, 3, 2), ret(6), jump(3))
	f.Params = 2
	f.Blocks[0].Head = []impl.Move{move(2, 0), move(3, 1)}
	f.Blocks[0].Body = []impl.Ins{
		ins(impl.OpConst, 2, 1000002, 0), ins(impl.OpCopy, 3, 2, 0), ins(impl.OpAdd, 4, 2, 3), ins(impl.OpSub, 5, 4, 3),
		ins(impl.OpMul, 6, 5, 5), ins(impl.OpLess, 7, 6, 0), ins(impl.OpEmit, -1, 9, 0),
	}
	f.Blocks[0].Tail = []impl.Move{move(8, 8), move(9, 2)}
	f.Blocks[2].Phis = []impl.Phi{phi(4, 1, 4), phi(5, 0, 9)}
	f.Blocks[2].Tail = []impl.Move{move(0, 1), move(1, 0)}
	f.Blocks[3].Phis = []impl.Phi{phi(6, 3, 2, 1)}
	f.Blocks[4].Phis = []impl.Phi{phi(7), phi(8)}
	return f
}

// fullest has as much of each thing as there may be.
func fullest() impl.Fun {
	ends := make([]impl.End, impl.MaxBlocks)
	for b := range int64(lastBlock) {
		ends[b] = jump(lastBlock)
	}
	ends[lastBlock] = ret(lastName)
	f := funOf(impl.MaxNames, ends...)
	f.Params = 6
	for at := range f.Blocks {
		b := &f.Blocks[at]
		for n := range int64(impl.MaxMoves) {
			b.Head = append(b.Head, move(n, lastName))
			b.Tail = append(b.Tail, move(lastName-n, n))
		}
		for range impl.MaxBody {
			b.Body = append(b.Body, ins(impl.OpMul, lastName, lastName, 0))
		}
	}
	last := &f.Blocks[lastBlock]
	for n := range int64(impl.MaxPhis) {
		last.Phis = append(last.Phis, phi(n, make([]int64, lastBlock)...))
	}
	return f
}

func TestConstantsOfFunctions(t *testing.T) {
	got := []int64{impl.MaxPhis, impl.MaxMoves, impl.MaxBody, impl.MaxBlocks, impl.EdRet, impl.EdJump, impl.EdIf}
	want := []int64{4, 40, 80, 40, 1, 2, 3}
	if !slices.Equal(got, want) {
		t.Errorf("constants are %v, want %v", got, want)
	}
}

// endRight and succsRight tell an End as chapter 2 does, by what each of its fields may hold.
func endRight(e impl.End) bool {
	name, block, none := span{0, 149}, span{0, 39}, span{0, 0}
	spans, ok := map[int64][3]span{1: {name, none, none}, 2: {none, block, none}, 3: {name, block, block}}[e.Kind]
	for at, field := range []int64{e.A, e.To, e.Else} {
		ok = ok && field >= spans[at].low && field <= spans[at].high
	}
	return ok && (e.Kind != 3 || e.To != e.Else)
}

func succsRight(e impl.End) []int64 {
	if !endRight(e) {
		return nil
	}
	return []int64{e.To, e.Else}[:e.Kind-1]
}

func TestRightEnds(t *testing.T) {
	for _, c := range []struct {
		e     impl.End
		succs []int64
	}{
		{ret(3), nil},
		{ret(0), nil},
		{ret(lastName), nil},
		{jump(2), []int64{2}},
		{jump(0), []int64{0}},
		{jump(lastBlock), []int64{lastBlock}},
		{branch(1, 2, 3), []int64{2, 3}},
		{branch(1, 3, 2), []int64{3, 2}},
		{branch(0, 0, 1), []int64{0, 1}},
		{branch(0, 1, 0), []int64{1, 0}},
		{branch(lastName, lastBlock, 0), []int64{lastBlock, 0}},
		{branch(lastName, 0, lastBlock), []int64{0, lastBlock}},
	} {
		if !impl.EndOk(c.e) {
			t.Errorf("EndOk(%v) is false", c.e)
		}
		if got := impl.SuccsOf(c.e); !slices.Equal(got, c.succs) {
			t.Errorf("SuccsOf(%v) is %v, want %v", c.e, got, c.succs)
		}
	}
}

func TestWrongEnds(t *testing.T) {
	for _, e := range []impl.End{
		{},
		{A: 1},
		{To: 1},
		{Kind: 4},
		{Kind: 4, A: 1, To: 2, Else: 3},
		{Kind: -1, A: 1, To: 2, Else: 3},
		ret(-1),
		ret(impl.MaxNames),
		{Kind: impl.EdRet, A: 1, To: 1},
		{Kind: impl.EdRet, A: 1, To: -1},
		{Kind: impl.EdRet, A: 1, Else: 1},
		{Kind: impl.EdRet, A: 1, Else: -1},
		jump(-1),
		jump(impl.MaxBlocks),
		{Kind: impl.EdJump, A: 1, To: 1},
		{Kind: impl.EdJump, A: -1, To: 1},
		{Kind: impl.EdJump, To: 1, Else: 1},
		{Kind: impl.EdJump, To: 1, Else: -1},
		branch(1, 0, 0),
		branch(1, 2, 2),
		branch(1, lastBlock, lastBlock),
		branch(-1, 1, 2),
		branch(impl.MaxNames, 1, 2),
		branch(1, -1, 2),
		branch(1, 2, -1),
		branch(1, impl.MaxBlocks, 2),
		branch(1, 2, impl.MaxBlocks),
	} {
		if impl.EndOk(e) {
			t.Errorf("EndOk(%v) is true", e)
		}
		if got := impl.SuccsOf(e); len(got) != 0 {
			t.Errorf("SuccsOf(%v) is %v, want nothing", e, got)
		}
	}
}

func TestAllEdgesOfEnds(t *testing.T) {
	fields := append([]int64{-2, -1, 0, 1, 2, 38, 39, 40, 41, 148, 149, 150, 151}, farNumbers...)
	right := 0
	for _, kind := range append([]int64{-1, 0, 1, 2, 3, 4, 5}, farNumbers...) {
		for _, a := range fields {
			for _, to := range fields {
				for _, other := range fields {
					right += checkEnd(t, impl.End{Kind: kind, A: a, To: to, Else: other})
				}
			}
		}
	}
	// 9 names and 5 blocks are among the fields.
	if want := 9 + 5 + 9*5*4; right != want {
		t.Errorf("%d ends are right, want %d", right, want)
	}
}

func checkEnd(t *testing.T, e impl.End) int {
	t.Helper()
	ok := impl.EndOk(e)
	if ok != endRight(e) {
		t.Errorf("EndOk(%v) is %v", e, ok)
	}
	if got, want := impl.SuccsOf(e), succsRight(e); !slices.Equal(got, want) {
		t.Errorf("SuccsOf(%v) is %v, want %v", e, got, want)
	}
	if ok {
		return 1
	}
	return 0
}

// edgesRight has all {from, to} of a function, whether it is right or not.
func edgesRight(f impl.Fun) [][2]int64 {
	edges := [][2]int64{}
	for from, b := range f.Blocks {
		for _, to := range succsRight(b.End) {
			edges = append(edges, [2]int64{int64(from), to})
		}
	}
	return edges
}

func predsRight(f impl.Fun, b int64) []int64 {
	preds := []int64{}
	for _, e := range edgesRight(f) {
		if e[1] == b {
			preds = append(preds, e[0])
		}
	}
	return preds
}

// namesRight has all that stands where a name must be.
func namesRight(f impl.Fun) []int64 {
	names := []int64{}
	for _, b := range f.Blocks {
		for _, p := range b.Phis {
			names = append(append(names, p.Var), p.Args...)
		}
		for _, m := range slices.Concat(b.Head, b.Tail) {
			names = append(names, m.To, m.From)
		}
		for _, i := range b.Body {
			if i.Op != impl.OpEmit {
				names = append(names, i.Var)
			}
			names = append(names, usesRight(i)...)
		}
		if b.End.Kind != impl.EdJump {
			names = append(names, b.End.A)
		}
	}
	return names
}

// funWrong says what is not right in a function; nothing where all is.
func funWrong(f impl.Fun) string {
	count := len(f.Blocks)
	switch {
	case count == 0 || count > 40:
		return "count of blocks"
	case f.Params < 0 || f.Params > 6 || f.Params > f.Names:
		return "params"
	case f.Names > 150:
		return "count of names"
	case len(f.Blocks[0].Phis) > 0 || len(predsRight(f, 0)) > 0:
		return "block 0"
	}
	for _, e := range edgesRight(f) {
		if e[1] >= int64(count) {
			return "target"
		}
	}
	for _, n := range namesRight(f) {
		if n < 0 || n >= f.Names {
			return "name"
		}
	}
	for at, b := range f.Blocks {
		if wrong := blockWrong(b, len(predsRight(f, int64(at)))); wrong != "" {
			return wrong
		}
	}
	return ""
}

func blockWrong(b impl.Block, preds int) string {
	if len(b.Phis) > 4 || len(b.Head) > 40 || len(b.Tail) > 40 || len(b.Body) > 80 {
		return "length"
	}
	for _, p := range b.Phis {
		if len(p.Args) != preds {
			return "count of args"
		}
	}
	for _, moves := range [][]impl.Move{b.Head, b.Tail} {
		tos := map[int64]bool{}
		for _, m := range moves {
			tos[m.To] = true
		}
		if len(tos) < len(moves) {
			return "two moves to one name"
		}
	}
	for _, i := range b.Body {
		if !insRight(i) {
			return "instruction"
		}
	}
	if !endRight(b.End) {
		return "end"
	}
	return ""
}

// checkFun holds a function against what chapter 2 says of it, and against promise 2.
func checkFun(t *testing.T, what any, f impl.Fun) {
	t.Helper()
	wrong := funWrong(f)
	if got := impl.FunOk(f); got != (wrong == "") {
		t.Errorf("%v: FunOk is %v; wrong in it: %q", what, got, wrong)
	}
	blocks := int64(len(f.Blocks))
	for b := range blocks {
		want := []int64{}
		if wrong == "" {
			want = predsRight(f, b)
		}
		if got := impl.PredsOf(f, b); !slices.Equal(got, want) {
			t.Errorf("%v: PredsOf block %d is %v, want %v", what, b, got, want)
		}
	}
	for _, b := range append([]int64{-1, blocks, blocks + 1, impl.MaxBlocks}, farNumbers...) {
		if b >= 0 && b < blocks {
			continue
		}
		if got := impl.PredsOf(f, b); len(got) != 0 {
			t.Errorf("%v: PredsOf block %d, which is not there, is %v", what, b, got)
		}
	}
	if wrong == "" {
		wantPredsOfSuccs(t, what, f)
	}
}

// wantPredsOfSuccs is promise 2, asked of the program alone: a succ has a pred, and a pred has a succ.
func wantPredsOfSuccs(t *testing.T, what any, f impl.Fun) {
	t.Helper()
	for at, b := range f.Blocks {
		from := int64(at)
		for _, to := range impl.SuccsOf(b.End) {
			if !slices.Contains(impl.PredsOf(f, to), from) {
				t.Errorf("%v: block %d is a succ of block %d, which is none of its preds %v", what, to, from, impl.PredsOf(f, to))
			}
		}
		preds := impl.PredsOf(f, from)
		for i, pred := range preds {
			if i > 0 && preds[i-1] >= pred {
				t.Errorf("%v: the preds %v of block %d do not rise", what, preds, from)
			}
			if !slices.Contains(impl.SuccsOf(f.Blocks[pred].End), from) {
				t.Errorf("%v: block %d is a pred of block %d, which is none of its succs", what, pred, from)
			}
		}
	}
}

func TestPredsOfRightFunctions(t *testing.T) {
	for _, c := range []struct {
		what  string
		f     impl.Fun
		preds [][]int64
	}{
		{"one block", funOf(1, ret(0)), [][]int64{{}}},
		{"a jump", funOf(1, jump(1), ret(0)), [][]int64{{}, {0}}},
		{"two jumps", funOf(1, jump(1), jump(2), ret(0)), [][]int64{{}, {0}, {1}}},
		{"a jump back", funOf(1, jump(2), ret(0), jump(1)), [][]int64{{}, {2}, {0}}},
		{"an if", funOf(1, branch(0, 1, 2), ret(0), ret(0)), [][]int64{{}, {0}, {0}}},
		{"an if, else first", funOf(1, branch(0, 2, 1), ret(0), ret(0)), [][]int64{{}, {0}, {0}}},
		{"ways that meet", funOf(1, branch(0, 1, 2), jump(3), jump(3), ret(0)), [][]int64{{}, {0}, {0}, {1, 2}}},
		{"an if past a block", funOf(1, branch(0, 1, 2), jump(2), ret(0)), [][]int64{{}, {0}, {0, 1}}},
		{"a loop of one", funOf(1, jump(1), branch(0, 1, 2), ret(0)), [][]int64{{}, {0, 1}, {1}}},
		{"a loop of one, else first", funOf(1, jump(1), branch(0, 2, 1), ret(0)), [][]int64{{}, {0, 1}, {1}}},
		{"a loop of two", funOf(1, jump(1), branch(0, 2, 3), jump(1), ret(0)), [][]int64{{}, {0, 2}, {1}, {1}}},
		{"a loop without end", funOf(0, jump(1), jump(1)), [][]int64{{}, {0, 1}}},
		{"loops in loops", funOf(1, jump(1), jump(2), branch(0, 2, 3), branch(0, 1, 4), ret(0)), [][]int64{{}, {0, 3}, {1, 2}, {2}, {3}}},
		{"a block led to by nothing", funOf(1, ret(0), ret(0)), [][]int64{{}, {}}},
		{"and it leads on", funOf(1, jump(2), jump(2), ret(0)), [][]int64{{}, {}, {0, 1}}},
		{"a loop led to by nothing", funOf(1, ret(0), jump(2), branch(0, 1, 2)), [][]int64{{}, {2}, {1, 2}}},
		{"a block led to by itself alone", funOf(1, ret(0), jump(1)), [][]int64{{}, {1}}},
		{"some of all", fullFun(), [][]int64{{}, {0}, {0, 2}, {1, 2, 4}, {}}},
	} {
		if !impl.FunOk(c.f) {
			t.Errorf("%s: FunOk is false", c.what)
		}
		for b, want := range c.preds {
			if got := impl.PredsOf(c.f, int64(b)); !slices.Equal(got, want) {
				t.Errorf("%s: PredsOf block %d is %v, want %v", c.what, b, got, want)
			}
		}
		checkFun(t, c.what, c.f)
	}
}

func TestPredsOfTheFullest(t *testing.T) {
	f := fullest()
	if !impl.FunOk(f) {
		t.Fatal("FunOk is false")
	}
	want := []int64{}
	for b := range int64(lastBlock) {
		want = append(want, b)
		if got := impl.PredsOf(f, b); len(got) != 0 {
			t.Errorf("PredsOf block %d is %v, want nothing", b, got)
		}
	}
	if got := impl.PredsOf(f, lastBlock); !slices.Equal(got, want) {
		t.Errorf("PredsOf the last block is %v, want %v", got, want)
	}
	checkFun(t, "fullest", f)
}

// change is a function, one thing of it changed, and whether it is right then.
type change struct {
	what  string
	ok    bool
	apply func(f *impl.Fun)
}

func checkChanges(t *testing.T, from func() impl.Fun, changes []change) {
	t.Helper()
	for _, c := range changes {
		f := from()
		c.apply(&f)
		if got := impl.FunOk(f); got != c.ok {
			t.Errorf("%s: FunOk is %v", c.what, got)
		}
		for b := range int64(impl.MaxBlocks + 1) {
			if got := impl.PredsOf(f, b); !c.ok && len(got) != 0 {
				t.Errorf("%s: PredsOf block %d is %v, want nothing", c.what, b, got)
			}
		}
		checkFun(t, c.what, f)
	}
}

func TestLimitsOfFunctions(t *testing.T) {
	checkChanges(t, fullest, []change{
		{"no change", true, func(f *impl.Fun) {}},
		{"a block more", false, func(f *impl.Fun) { f.Blocks = append(f.Blocks, impl.Block{End: ret(0)}) }},
		{"a param more", false, func(f *impl.Fun) { f.Params = 7 }},
		{"no params", true, func(f *impl.Fun) { f.Params = 0 }},
		{"params below 0", false, func(f *impl.Fun) { f.Params = -1 }},
		{"a name more", false, func(f *impl.Fun) { f.Names = impl.MaxNames + 1 }},
		{"a name less", false, func(f *impl.Fun) { f.Names = impl.MaxNames - 1 }},
		{"a phi more", false, func(f *impl.Fun) {
			b := &f.Blocks[lastBlock]
			b.Phis = append(b.Phis, phi(9, make([]int64, lastBlock)...))
		}},
		{"a move more in the head", false, func(f *impl.Fun) { f.Blocks[3].Head = append(f.Blocks[3].Head, move(impl.MaxMoves, 0)) }},
		{"a move more in the tail", false, func(f *impl.Fun) { f.Blocks[3].Tail = append(f.Blocks[3].Tail, move(0, 0)) }},
		{"the first and the last move of a head to one name", false, func(f *impl.Fun) { f.Blocks[3].Head[impl.MaxMoves-1].To = 0 }},
		{"the first and the last move of a tail to one name", false, func(f *impl.Fun) { f.Blocks[3].Tail[impl.MaxMoves-1].To = lastName }},
		{"an instruction more", false, func(f *impl.Fun) { f.Blocks[3].Body = append(f.Blocks[3].Body, ins(impl.OpEmit, -1, 0, 0)) }},
		{"a move more in the last head", false, func(f *impl.Fun) {
			f.Blocks[lastBlock].Head = append(f.Blocks[lastBlock].Head, move(impl.MaxMoves, 0))
		}},
		{"an instruction more in the last block", false, func(f *impl.Fun) {
			f.Blocks[lastBlock].Body = append(f.Blocks[lastBlock].Body, ins(impl.OpEmit, -1, 0, 0))
		}},
		{"an arg more", false, func(f *impl.Fun) {
			p := &f.Blocks[lastBlock].Phis[3]
			p.Args = append(p.Args, 0)
		}},
		{"an arg less", false, func(f *impl.Fun) {
			p := &f.Blocks[lastBlock].Phis[3]
			p.Args = p.Args[:lastBlock-1]
		}},
		{"no blocks", false, func(f *impl.Fun) { f.Blocks = nil }},
		{"an empty list of blocks", false, func(f *impl.Fun) { f.Blocks = []impl.Block{} }},
	})
}

func TestManyMoreThanTheLimits(t *testing.T) {
	checkChanges(t, func() impl.Fun { return funOf(0, jump(1), jump(1)) }, []change{
		{"many blocks", false, func(f *impl.Fun) { f.Blocks = slices.Repeat(f.Blocks, 5000) }},
		{"many phis", false, func(f *impl.Fun) { f.Blocks[1].Phis = make([]impl.Phi, 10000) }},
		{"many args", false, func(f *impl.Fun) { f.Names = 1; f.Blocks[1].Phis = []impl.Phi{phi(0, make([]int64, 10000)...)} }},
		{"many moves", false, func(f *impl.Fun) { f.Names = 1; f.Blocks[1].Head = make([]impl.Move, 10000) }},
		{"many instructions", false, func(f *impl.Fun) {
			f.Names = 1
			f.Blocks[1].Body = slices.Repeat([]impl.Ins{ins(impl.OpCopy, 0, 0, 0)}, 10000)
		}},
	})
}

func TestCountsOfFunctions(t *testing.T) {
	for _, c := range []struct {
		params, names int64
		ok            bool
	}{
		{0, 0, true}, {1, 0, false}, {-1, 0, false}, {0, -1, false}, {-1, -1, false},
		{0, 1, true}, {1, 1, true}, {2, 1, false}, {3, 2, false}, {2, 3, true},
		{5, 5, true}, {6, 5, false}, {6, 6, true}, {6, 7, true}, {7, 6, false}, {7, 7, false}, {7, 8, false},
		{0, 149, true}, {0, 150, true}, {0, 151, false}, {6, 150, true}, {6, 151, false}, {7, 150, false},
	} {
		f := funOf(c.names, jump(1), jump(1))
		f.Params = c.params
		if got := impl.FunOk(f); got != c.ok {
			t.Errorf("Params %d, Names %d: FunOk is %v", c.params, c.names, got)
		}
		if got := len(impl.PredsOf(f, 1)) == 2; got != c.ok {
			t.Errorf("Params %d, Names %d: PredsOf is %v", c.params, c.names, impl.PredsOf(f, 1))
		}
		checkFun(t, c, f)
	}
	for _, far := range farNumbers {
		for _, pair := range [][2]int64{{far, 3}, {0, far}, {far, far}} {
			f := funOf(pair[1], jump(1), jump(1))
			f.Params = pair[0]
			checkFun(t, pair, f)
		}
	}
}

func TestWithoutNames(t *testing.T) {
	checkChanges(t, func() impl.Fun { return funOf(0, jump(1), jump(1)) }, []change{
		{"no names", true, func(f *impl.Fun) {}},
		{"a ret", false, func(f *impl.Fun) { f.Blocks[1].End = ret(0) }},
		{"an if", false, func(f *impl.Fun) {
			f.Blocks = append(f.Blocks, f.Blocks[1])
			f.Blocks[0].End = branch(0, 1, 2)
		}},
		{"a const", false, func(f *impl.Fun) { f.Blocks[0].Body = []impl.Ins{ins(impl.OpConst, 0, 0, 0)} }},
		{"an emit", false, func(f *impl.Fun) { f.Blocks[0].Body = []impl.Ins{ins(impl.OpEmit, -1, 0, 0)} }},
		{"a phi", false, func(f *impl.Fun) { f.Blocks[1].Phis = []impl.Phi{phi(0, 0, 0)} }},
		{"a head", false, func(f *impl.Fun) { f.Blocks[0].Head = []impl.Move{move(0, 0)} }},
		{"a tail", false, func(f *impl.Fun) { f.Blocks[0].Tail = []impl.Move{move(0, 0)} }},
	})
}

// withPart is fullFun with one more thing in its block 2.
func withPart(what string, ok bool, add func(b *impl.Block)) change {
	return change{what, ok, func(f *impl.Fun) { add(&f.Blocks[2]) }}
}

func withIns(ok bool, i impl.Ins) change {
	return withPart(fmt.Sprint("instruction ", i), ok, func(b *impl.Block) { b.Body = append(b.Body, i) })
}

// withEnd takes all Phis away, as it changes the preds.
func withEnd(ok bool, e impl.End) change {
	return change{fmt.Sprint("end ", e), ok, func(f *impl.Fun) {
		f.Blocks[1].End = e
		for at := range f.Blocks {
			f.Blocks[at].Phis = nil
		}
	}}
}

// fullFun has 10 names and 5 blocks.
func TestNamesOfFunctions(t *testing.T) {
	changes := []change{
		withIns(true, ins(impl.OpConst, 9, impl.Prime-1, 0)),
		withIns(false, ins(impl.OpConst, 10, 0, 0)),
		withIns(false, ins(impl.OpConst, 9, impl.Prime, 0)),
		withIns(true, ins(impl.OpEmit, -1, 9, 0)),
		withIns(false, ins(impl.OpEmit, -1, 10, 0)),
		withIns(false, ins(impl.OpEmit, 0, 9, 0)),
		withIns(true, ins(impl.OpCopy, 9, 9, 0)),
		withIns(false, ins(impl.OpCopy, 10, 9, 0)),
		withIns(false, ins(impl.OpCopy, 9, 10, 0)),
		withIns(false, ins(impl.OpCopy, 9, 9, 1)),
		withIns(false, impl.Ins{}),
		withIns(false, ins(impl.OpEmit+1, 1, 1, 1)),
		withPart("phi of the last name", true, func(b *impl.Block) { b.Phis[0].Var = 9 }),
		withPart("phi of one past it", false, func(b *impl.Block) { b.Phis[0].Var = 10 }),
		withPart("phi below 0", false, func(b *impl.Block) { b.Phis[0].Var = -1 }),
		withPart("arg of the last name", true, func(b *impl.Block) { b.Phis[0].Args[0] = 9 }),
		withPart("arg of one past it", false, func(b *impl.Block) { b.Phis[0].Args[0] = 10 }),
		withPart("last arg of one past it", false, func(b *impl.Block) { b.Phis[1].Args[1] = 10 }),
		withPart("arg below 0", false, func(b *impl.Block) { b.Phis[1].Args[1] = -1 }),
		withPart("if of the last name", true, func(b *impl.Block) { b.End.A = 9 }),
		withPart("if of one past it", false, func(b *impl.Block) { b.End.A = 10 }),
		withEnd(true, ret(9)),
		withEnd(false, ret(10)),
		withEnd(false, ret(-1)),
	}
	for op := int64(impl.OpAdd); op <= impl.OpLess; op++ {
		changes = append(changes, withIns(true, ins(op, 9, 9, 9)), withIns(false, ins(op, 10, 9, 9)), withIns(false, ins(op, 9, 10, 9)), withIns(false, ins(op, 9, 9, 10)))
	}
	checkChanges(t, fullFun, changes)
}

func TestMovesOfFunctions(t *testing.T) {
	changes := []change{}
	for _, c := range []struct {
		moves []impl.Move
		ok    bool
	}{
		{nil, true},
		{[]impl.Move{}, true},
		{[]impl.Move{move(3, 3)}, true},
		{[]impl.Move{move(0, 9), move(9, 0)}, true},
		{[]impl.Move{move(1, 5), move(2, 5)}, true},
		{[]impl.Move{move(5, 1), move(5, 2)}, false},
		{[]impl.Move{move(5, 1), move(5, 1)}, false},
		{[]impl.Move{move(5, 1), move(6, 1), move(7, 1), move(5, 5)}, false},
		{[]impl.Move{move(0, 1), move(0, 0)}, false},
		{[]impl.Move{move(9, 1), move(0, 1), move(9, 2)}, false},
		{[]impl.Move{move(10, 1)}, false},
		{[]impl.Move{move(1, 10)}, false},
		{[]impl.Move{move(-1, 1)}, false},
		{[]impl.Move{move(1, -1)}, false},
		{[]impl.Move{move(1, 2), move(10, 1)}, false},
	} {
		changes = append(changes,
			withPart(fmt.Sprint("head ", c.moves), c.ok, func(b *impl.Block) { b.Head = c.moves }),
			withPart(fmt.Sprint("tail ", c.moves), c.ok, func(b *impl.Block) { b.Tail = c.moves }))
	}
	changes = append(changes, withPart("head and tail to one name", true, func(b *impl.Block) {
		b.Head = []impl.Move{move(5, 1)}
		b.Tail = []impl.Move{move(5, 1)}
	}))
	checkChanges(t, fullFun, changes)
}

func TestTargetsOfFunctions(t *testing.T) {
	checkChanges(t, fullFun, []change{
		withEnd(true, jump(4)),
		withEnd(false, jump(5)),
		withEnd(false, jump(lastBlock)),
		withEnd(false, jump(0)),
		withEnd(true, jump(1)),
		withEnd(true, branch(1, 4, 1)),
		withEnd(true, branch(1, 1, 4)),
		withEnd(false, branch(1, 5, 1)),
		withEnd(false, branch(1, 1, 5)),
		withEnd(false, branch(1, 0, 1)),
		withEnd(false, branch(1, 1, 0)),
		withEnd(false, branch(1, 1, 1)),
		withEnd(false, branch(1, 4, 4)),
		withEnd(false, impl.End{}),
		withEnd(false, impl.End{Kind: 4}),
		withEnd(false, impl.End{Kind: impl.EdRet, A: 1, To: 1}),
		withEnd(false, impl.End{Kind: impl.EdRet, A: 1, Else: 1}),
		withEnd(false, impl.End{Kind: impl.EdJump, A: 1, To: 1}),
		withEnd(false, impl.End{Kind: impl.EdJump, To: 1, Else: 1}),
	})
}

func TestPhisOfFunctions(t *testing.T) {
	checkChanges(t, fullFun, []change{
		{"as many args as preds", true, func(f *impl.Fun) { f.Blocks[3].Phis = append(f.Blocks[3].Phis, phi(9, 9, 9, 9)) }},
		{"an arg less", false, func(f *impl.Fun) { f.Blocks[3].Phis = append(f.Blocks[3].Phis, phi(9, 9, 9)) }},
		{"an arg more", false, func(f *impl.Fun) { f.Blocks[3].Phis = append(f.Blocks[3].Phis, phi(9, 9, 9, 9, 9)) }},
		{"no args", false, func(f *impl.Fun) { f.Blocks[3].Phis = append(f.Blocks[3].Phis, phi(9)) }},
		{"args without preds", false, func(f *impl.Fun) { f.Blocks[4].Phis = append(f.Blocks[4].Phis, phi(9, 1)) }},
		{"no args and no preds", true, func(f *impl.Fun) { f.Blocks[4].Phis = append(f.Blocks[4].Phis, phi(9)) }},
		{"a pred more", false, func(f *impl.Fun) { f.Blocks[4].End = jump(2) }},
		{"a pred less", false, func(f *impl.Fun) { f.Blocks[4].End = ret(1) }},
		{"four phis", true, func(f *impl.Fun) { f.Blocks[4].Phis = []impl.Phi{phi(1), phi(2), phi(3), phi(4)} }},
		{"five phis", false, func(f *impl.Fun) { f.Blocks[4].Phis = []impl.Phi{phi(1), phi(2), phi(3), phi(4), phi(5)} }},
		{"two phis of one name", true, func(f *impl.Fun) { f.Blocks[4].Phis = []impl.Phi{phi(1), phi(1)} }},
		{"phis in the block 0", false, func(f *impl.Fun) { f.Blocks[0].Phis = []impl.Phi{phi(1)} }},
		{"a pred of the block 0", false, func(f *impl.Fun) { f.Blocks[4].End = jump(0) }},
		{"a pred of the block 0 by an if", false, func(f *impl.Fun) { f.Blocks[4].End = branch(1, 3, 0) }},
		{"a pred and phis of the block 0", false, func(f *impl.Fun) {
			f.Blocks[4].End = jump(0)
			f.Blocks[0].Phis = []impl.Phi{phi(1, 1)}
		}},
		{"the block 0 leads to itself", false, func(f *impl.Fun) { *f = funOf(1, jump(0)) }},
		{"a block leads to itself", true, func(f *impl.Fun) {
			*f = funOf(3, jump(1), branch(0, 1, 2), ret(0))
			f.Blocks[1].Phis = []impl.Phi{phi(1, 0, 1), phi(2, 2, 2)}
		}},
	})
}

// numbersOf has all numbers of a function, to be written into.
func numbersOf(f *impl.Fun) []*int64 {
	numbers := []*int64{&f.Params, &f.Names}
	for at := range f.Blocks {
		b := &f.Blocks[at]
		for i := range b.Phis {
			numbers = append(numbers, &b.Phis[i].Var)
			for j := range b.Phis[i].Args {
				numbers = append(numbers, &b.Phis[i].Args[j])
			}
		}
		for _, moves := range [][]impl.Move{b.Head, b.Tail} {
			for i := range moves {
				numbers = append(numbers, &moves[i].To, &moves[i].From)
			}
		}
		for i := range b.Body {
			numbers = append(numbers, &b.Body[i].Op, &b.Body[i].Var, &b.Body[i].A, &b.Body[i].B)
		}
		numbers = append(numbers, &b.End.Kind, &b.End.A, &b.End.To, &b.End.Else)
	}
	return numbers
}

func TestEachNumberChanged(t *testing.T) {
	values := append([]int64{-1, 0, 1, 2, 3, 4, 5, 6, 7, 8, 9, 10, 11, 39, 40, 149, 150, 1000002, 1000003}, farNumbers...)
	f := fullFun()
	right := 0
	for at, number := range numbersOf(&f) {
		was := *number
		for _, value := range values {
			*number = value
			checkFun(t, fmt.Sprintf("number %d is %d", at, value), f)
			if impl.FunOk(f) && value != was {
				right++
			}
		}
		*number = was
	}
	if right == 0 {
		t.Error("no change leaves the function right")
	}
}

// resized is a list as it is not: empty, nil, one less, one more.
func resized[T any](list []T) [][]T {
	var one T
	lists := [][]T{nil, {}, append(slices.Clone(list), one)}
	if len(list) > 0 {
		last := list[len(list)-1]
		lists = append(lists, list[1:], list[:len(list)-1], append(slices.Clone(list), last))
	}
	return lists
}

func checkResized[T any](t *testing.T, what string, f impl.Fun, list *[]T) {
	t.Helper()
	was := *list
	for at, other := range resized(was) {
		*list = other
		checkFun(t, fmt.Sprint(what, ", change ", at), f)
	}
	*list = was
}

func TestEachListChanged(t *testing.T) {
	f := fullFun()
	for at := range f.Blocks {
		b := &f.Blocks[at]
		checkResized(t, fmt.Sprintf("phis of block %d", at), f, &b.Phis)
		checkResized(t, fmt.Sprintf("head of block %d", at), f, &b.Head)
		checkResized(t, fmt.Sprintf("body of block %d", at), f, &b.Body)
		checkResized(t, fmt.Sprintf("tail of block %d", at), f, &b.Tail)
		for i := range b.Phis {
			checkResized(t, fmt.Sprintf("args of phi %d of block %d", i, at), f, &b.Phis[i].Args)
		}
	}
	for _, blocks := range resized(f.Blocks) {
		checkFun(t, fmt.Sprint(len(blocks), " blocks"), impl.Fun{Params: 2, Names: 10, Blocks: blocks})
	}
}

// anyEnd leads to blocks from 1 on; a function of one block can only return.
func anyEnd(r *rand.Rand, names int64, blocks int64) impl.End {
	if blocks == 1 {
		return ret(r.Int63n(names))
	}
	to, other := 1+r.Int63n(blocks-1), 1+r.Int63n(blocks-1)
	switch kind := r.Intn(3); {
	case kind == 0:
		return ret(r.Int63n(names))
	case kind == 1 || to == other:
		return jump(to)
	}
	return branch(r.Int63n(names), to, other)
}

// anyMoves goes to names from one on that rise, so no two are alike.
func anyMoves(r *rand.Rand, names int64) []impl.Move {
	moves := []impl.Move{}
	for to := range min(names, impl.MaxMoves) {
		if r.Intn(3) == 0 {
			moves = append(moves, move(to, r.Int63n(names)))
		}
	}
	return moves
}

func anyBody(r *rand.Rand, names int64) []impl.Ins {
	body := []impl.Ins{}
	for range r.Intn(6) {
		name, a, b := r.Int63n(names), r.Int63n(names), r.Int63n(names)
		switch op := 1 + r.Int63n(7); op {
		case impl.OpConst:
			body = append(body, ins(op, name, r.Int63n(impl.Prime), 0))
		case impl.OpCopy:
			body = append(body, ins(op, name, a, 0))
		case impl.OpEmit:
			body = append(body, ins(op, -1, a, 0))
		default:
			body = append(body, ins(op, name, a, b))
		}
	}
	return body
}

// anyFun is a right function.
func anyFun(r *rand.Rand) impl.Fun {
	names, blocks := 1+r.Int63n(20), 1+r.Int63n(12)
	f := impl.Fun{Params: r.Int63n(min(names, 6) + 1), Names: names}
	for range blocks {
		f.Blocks = append(f.Blocks, impl.Block{Head: anyMoves(r, names), Body: anyBody(r, names), Tail: anyMoves(r, names), End: anyEnd(r, names, blocks)})
	}
	addPhis(r, &f, names)
	return f
}

// addPhis wants a function whose Ends stay, as the Args are by the preds.
func addPhis(r *rand.Rand, f *impl.Fun, names int64) {
	for at := range f.Blocks {
		for n := r.Intn(impl.MaxPhis + 1); at > 0 && n > 0; n-- {
			p := phi(r.Int63n(names))
			for range predsRight(*f, int64(at)) {
				p.Args = append(p.Args, r.Int63n(names))
			}
			f.Blocks[at].Phis = append(f.Blocks[at].Phis, p)
		}
	}
}

func TestManyFunctions(t *testing.T) {
	r := rand.New(rand.NewSource(3))
	for n := range 2000 {
		f := anyFun(r)
		if !impl.FunOk(f) {
			t.Errorf("function %d: FunOk is false; wrong in it: %q", n, funWrong(f))
		}
		checkFun(t, fmt.Sprint("function ", n), f)
	}
}

func TestManyFunctionsChanged(t *testing.T) {
	r := rand.New(rand.NewSource(4))
	values := append([]int64{-1, 0, 1, 2, 3, 6, 7, 8, 12, 20, 39, 40, 149, 150}, farNumbers...)
	ok := map[bool]int{}
	for n := range 4000 {
		f := anyFun(r)
		numbers := numbersOf(&f)
		for range 1 + r.Intn(2) {
			*numbers[r.Intn(len(numbers))] = values[r.Intn(len(values))]
		}
		ok[impl.FunOk(f)]++
		checkFun(t, fmt.Sprint("changed function ", n), f)
	}
	if ok[true] < 100 || ok[false] < 100 {
		t.Errorf("right and wrong ones: %v", ok)
	}
}

// wildList is of a length that is seldom right; nil at times.
func wildList[T any](r *rand.Rand, one func() T) []T {
	lengths := []int{0, 0, 1, 1, 2, 3, 4, 5}
	if r.Intn(60) == 0 {
		lengths = []int{39, 40, 41, 80, 81, 200}
	}
	var list []T
	for range lengths[r.Intn(len(lengths))] {
		list = append(list, one())
	}
	return list
}

func wildFun(r *rand.Rand) impl.Fun {
	number := func() int64 {
		if r.Intn(3) == 0 {
			return farNumbers[r.Intn(len(farNumbers))]
		}
		return r.Int63n(10) - 2
	}
	wildMove := func() impl.Move { return move(number(), number()) }
	return impl.Fun{Params: number(), Names: number(), Blocks: wildList(r, func() impl.Block {
		return impl.Block{
			Phis: wildList(r, func() impl.Phi { return phi(number(), wildList(r, number)...) }),
			Head: wildList(r, wildMove),
			Body: wildList(r, func() impl.Ins { return ins(number(), number(), number(), number()) }),
			Tail: wildList(r, wildMove),
			End:  impl.End{Kind: number(), A: number(), To: number(), Else: number()},
		}
	})}
}

func TestFunctionsDoNotPanic(t *testing.T) {
	r := rand.New(rand.NewSource(5))
	for n := range 20000 {
		f := wildFun(r)
		// A block is looked at only where the counts are right.
		if n%2 == 0 {
			f.Params, f.Names = 0, r.Int63n(impl.MaxNames+1)
		}
		wantNoPanic(t, fmt.Sprintf("wild function %d: %v", n, f), func() { checkFun(t, f, f) })
	}
	for _, f := range []impl.Fun{{}, {Names: 3}, {Blocks: make([]impl.Block, 1)}, {Blocks: make([]impl.Block, 40)}} {
		wantNoPanic(t, f, func() { checkFun(t, f, f) })
	}
}

func TestSuccsAndPredsAreNewMemory(t *testing.T) {
	for _, e := range []impl.End{{}, ret(1), jump(2), branch(1, 2, 3), branch(1, 2, 2)} {
		wantNewMemory(t, fmt.Sprintf("SuccsOf(%v)", e), func() []int64 { return impl.SuccsOf(e) })
	}
	wrong := fullFun()
	wrong.Names = 1
	for what, f := range map[string]impl.Fun{"full": fullFun(), "fullest": fullest(), "wrong": wrong, "zero": {}} {
		for b := int64(-1); b <= impl.MaxBlocks; b++ {
			wantNewMemory(t, fmt.Sprintf("PredsOf(%s, %d)", what, b), func() []int64 { return impl.PredsOf(f, b) })
		}
	}
}

func TestFunctionsStay(t *testing.T) {
	r := rand.New(rand.NewSource(6))
	funs := []impl.Fun{{}, fullFun(), fullest(), funOf(1, ret(0)), funOf(0, jump(1), jump(1)), funOf(1, jump(0))}
	for range 100 {
		funs = append(funs, anyFun(r), wildFun(r))
	}
	for at, f := range funs {
		wantFunStays(t, fmt.Sprintf("function %d: FunOk", at), f, func(f impl.Fun) { impl.FunOk(f) })
		wantFunStays(t, fmt.Sprintf("function %d: PredsOf", at), f, func(f impl.Fun) {
			for b := int64(-1); b <= impl.MaxBlocks; b++ {
				preds := impl.PredsOf(f, b)
				_ = append(preds[:0], slices.Repeat([]int64{-7}, cap(preds))...)
			}
		})
	}
}
