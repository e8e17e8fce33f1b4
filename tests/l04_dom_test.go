package tests

import (
	"fmt"
	"math"
	"math/rand"
	"slices"
	"testing"

	"loop.example/g00823/impl"
)

// reachedWithout spreads from the block 0 along all edges but those of the block that is left out.
func reachedWithout(f impl.Fun, out int64) []bool {
	reached := make([]bool, len(f.Blocks))
	reached[0] = out != 0
	edges := edgesRight(f)
	for range f.Blocks {
		for _, e := range edges {
			reached[e[1]] = reached[e[1]] || reached[e[0]] && e[1] != out
		}
	}
	return reached
}

// domsRight tells of each block what dominates it: that without which it is not come to any more.
func domsRight(f impl.Fun) [][]int64 {
	doms := make([][]int64, len(f.Blocks))
	reached := reachedRight(f)
	for a := range f.Blocks {
		without := reachedWithout(f, int64(a))
		for b := range f.Blocks {
			if reached[b] && !without[b] {
				doms[b] = append(doms[b], int64(a))
			}
		}
	}
	return doms
}

// idomRight takes from all that dominate b, but itself, the one that all of them dominate.
func idomRight(doms [][]int64, b int64) int64 {
	others := slices.DeleteFunc(slices.Clone(doms[b]), func(a int64) bool { return a == b })
	for _, a := range others {
		if !slices.ContainsFunc(others, func(other int64) bool { return !slices.Contains(doms[a], other) }) {
			return a
		}
	}
	return -1
}

// checkDoms holds the three calls against what chapter 4 says of the function.
func checkDoms(t *testing.T, what any, f impl.Fun) {
	t.Helper()
	if funWrong(f) != "" {
		wantNoDoms(t, what, f)
		return
	}
	doms, blocks := domsRight(f), int64(len(f.Blocks))
	for b := range blocks {
		if got := impl.DomsOf(f, b); !slices.Equal(got, doms[b]) {
			t.Errorf("%v: DomsOf block %d is %v, want %v", what, b, got, doms[b])
		}
		if got, want := impl.IdomOf(f, b), idomRight(doms, b); got != want {
			t.Errorf("%v: IdomOf block %d is %d, want %d", what, b, got, want)
		}
		for a := range blocks {
			if got, want := impl.Dominates(f, a, b), slices.Contains(doms[b], a); got != want {
				t.Errorf("%v: Dominates %d, %d is %v, want %v", what, a, b, got, want)
			}
		}
	}
	for _, n := range []int64{-2, -1, blocks, blocks + 1} {
		wantNoBlock(t, what, f, n)
	}
	if broken := treeBroken(f); broken != "" {
		t.Errorf("%v: %s", what, broken)
	}
}

// wantNoBlock is what is answered of a number of no block, and of a block that is not reached.
func wantNoBlock(t *testing.T, what any, f impl.Fun, n int64) {
	t.Helper()
	if got := impl.DomsOf(f, n); len(got) != 0 {
		t.Errorf("%v: DomsOf %d is %v, want nothing", what, n, got)
	}
	if got := impl.IdomOf(f, n); got != -1 {
		t.Errorf("%v: IdomOf %d is %d, want -1", what, n, got)
	}
	for b := int64(-1); b <= int64(len(f.Blocks)) && b <= impl.MaxBlocks; b++ {
		if impl.Dominates(f, n, b) || impl.Dominates(f, b, n) {
			t.Errorf("%v: Dominates of %d and %d is true, want false", what, n, b)
		}
	}
	if impl.Dominates(f, n, n) {
		t.Errorf("%v: Dominates of %d and itself is true, want false", what, n)
	}
}

// wantNoDoms is what is answered of a function that is not right.
func wantNoDoms(t *testing.T, what any, f impl.Fun) {
	t.Helper()
	for b := int64(-1); b <= int64(len(f.Blocks)) && b <= impl.MaxBlocks; b++ {
		wantNoBlock(t, what, f, b)
	}
}

// treeBroken says what promise 4 does not hold of, asked of the program alone; nothing where it holds.
func treeBroken(f impl.Fun) string {
	for at, reached := range impl.Reached(f) {
		b := int64(at)
		doms := impl.DomsOf(f, b)
		switch {
		case impl.Dominates(f, b, b) != reached || impl.Dominates(f, 0, b) != reached:
			return fmt.Sprintf("block %d, reached: %v; dominated by itself: %v, by the block 0: %v", b, reached, impl.Dominates(f, b, b), impl.Dominates(f, 0, b))
		case !reached && (len(doms) > 0 || impl.IdomOf(f, b) != -1):
			return fmt.Sprintf("block %d is not reached, but has %v, and %d", b, doms, impl.IdomOf(f, b))
		}
		for a := range int64(len(f.Blocks)) {
			if impl.Dominates(f, a, b) != slices.Contains(doms, a) {
				return fmt.Sprintf("Dominates %d, %d is %v; DomsOf the latter: %v", a, b, impl.Dominates(f, a, b), doms)
			}
		}
		if broken := wayBroken(f, b, doms); broken != "" {
			return broken
		}
	}
	return ""
}

// wayBroken goes up from b to the block 0, and looks for each two that dominate b whether one dominates the other.
func wayBroken(f impl.Fun, b int64, doms []int64) string {
	way := []int64{}
	for at := b; at != -1 && len(doms) > 0; at = impl.IdomOf(f, at) {
		way = append(way, at)
		if len(way) > len(doms) {
			return fmt.Sprintf("block %d: from it up is %v, and on; all that dominate it: %v", b, way, doms)
		}
	}
	if len(way) > 0 && way[len(way)-1] != 0 {
		return fmt.Sprintf("block %d: from it up is %v, which does not end with 0", b, way)
	}
	if slices.Sort(way); !slices.Equal(way, doms) {
		return fmt.Sprintf("block %d: from it up are %v; all that dominate it: %v", b, way, doms)
	}
	for _, a := range doms {
		for _, c := range doms {
			if !impl.Dominates(f, a, c) && !impl.Dominates(f, c, a) {
				return fmt.Sprintf("block %d: of %d and %d, which dominate it, none dominates the other", b, a, c)
			}
			if a != c && impl.Dominates(f, a, c) && impl.Dominates(f, c, a) {
				return fmt.Sprintf("%d and %d dominate each other", a, c)
			}
		}
	}
	return ""
}

// tree is a function, and of each of its blocks the IdomOf and the DomsOf.
type tree struct {
	what  string
	f     impl.Fun
	idoms []int64
	doms  [][]int64
}

func checkTrees(t *testing.T, trees []tree) {
	t.Helper()
	for _, c := range trees {
		if !impl.FunOk(c.f) || len(c.idoms) != len(c.f.Blocks) || len(c.doms) != len(c.f.Blocks) {
			t.Fatalf("%s: the test is not right", c.what)
		}
		for at := range c.f.Blocks {
			b := int64(at)
			if got := impl.DomsOf(c.f, b); !slices.Equal(got, c.doms[b]) {
				t.Errorf("%s: DomsOf block %d is %v, want %v", c.what, b, got, c.doms[b])
			}
			if got := impl.IdomOf(c.f, b); got != c.idoms[b] {
				t.Errorf("%s: IdomOf block %d is %d, want %d", c.what, b, got, c.idoms[b])
			}
			for a := range c.f.Blocks {
				if got, want := impl.Dominates(c.f, int64(a), b), slices.Contains(c.doms[b], int64(a)); got != want {
					t.Errorf("%s: Dominates %d, %d is %v, want %v", c.what, a, b, got, want)
				}
			}
		}
		checkDoms(t, c.what, c.f)
	}
}

func TestDomsWithoutLoops(t *testing.T) {
	checkTrees(t, []tree{
		{"one block", funOf(1, ret(0)), []int64{-1}, [][]int64{{0}}},
		{"a jump", funOf(0, jump(1), jump(1)), []int64{-1, 0}, [][]int64{{0}, {0, 1}}},
		{"jumps", funOf(1, jump(1), jump(2), ret(0)), []int64{-1, 0, 1}, [][]int64{{0}, {0, 1}, {0, 1, 2}}},
		{"jumps back", funOf(1, jump(3), ret(0), jump(1), jump(2)), []int64{-1, 2, 3, 0}, [][]int64{{0}, {0, 1, 2, 3}, {0, 2, 3}, {0, 3}}},
		{"an if", funOf(1, branch(0, 1, 2), ret(0), ret(0)), []int64{-1, 0, 0}, [][]int64{{0}, {0, 1}, {0, 2}}},
		{"an if, else first", funOf(1, branch(0, 2, 1), ret(0), ret(0)), []int64{-1, 0, 0}, [][]int64{{0}, {0, 1}, {0, 2}}},
		{"ways that meet", funOf(1, branch(0, 1, 2), jump(3), jump(3), ret(0)), []int64{-1, 0, 0, 0}, [][]int64{{0}, {0, 1}, {0, 2}, {0, 3}}},
		{"ways that meet, else first", funOf(1, branch(0, 2, 1), jump(3), jump(3), ret(0)), []int64{-1, 0, 0, 0}, [][]int64{{0}, {0, 1}, {0, 2}, {0, 3}}},
		{"an if past a block", funOf(1, branch(0, 1, 2), jump(2), ret(0)), []int64{-1, 0, 0}, [][]int64{{0}, {0, 1}, {0, 2}}},
		{"an if past a block, else first", funOf(1, branch(0, 2, 1), jump(2), ret(0)), []int64{-1, 0, 0}, [][]int64{{0}, {0, 1}, {0, 2}}},
		{"ways that meet behind a block", funOf(1, jump(1), branch(0, 2, 3), jump(4), jump(4), jump(5), ret(0)), []int64{-1, 0, 1, 1, 1, 4},
			[][]int64{{0}, {0, 1}, {0, 1, 2}, {0, 1, 3}, {0, 1, 4}, {0, 1, 4, 5}}},
		{"ways that meet, and meet again", funOf(1, branch(0, 1, 4), branch(0, 2, 3), jump(5), jump(5), jump(6), jump(6), ret(0)), []int64{-1, 0, 1, 1, 0, 1, 0},
			[][]int64{{0}, {0, 1}, {0, 1, 2}, {0, 1, 3}, {0, 4}, {0, 1, 5}, {0, 6}}},
		{"a way across", funOf(1, branch(0, 1, 2), branch(0, 3, 4), jump(4), jump(5), jump(5), ret(0)), []int64{-1, 0, 0, 1, 0, 0},
			[][]int64{{0}, {0, 1}, {0, 2}, {0, 1, 3}, {0, 4}, {0, 5}}},
		{"a way out of the first of two", funOf(1, branch(0, 1, 2), ret(0), jump(3), branch(0, 4, 5), ret(0), ret(0)), []int64{-1, 0, 0, 2, 3, 3},
			[][]int64{{0}, {0, 1}, {0, 2}, {0, 2, 3}, {0, 2, 3, 4}, {0, 2, 3, 5}}},
		{"higher blocks dominate lower ones", funOf(1, jump(4), ret(0), jump(1), jump(1), branch(0, 2, 3)), []int64{-1, 4, 4, 4, 0},
			[][]int64{{0}, {0, 1, 4}, {0, 2, 4}, {0, 3, 4}, {0, 4}}},
	})
}

func TestDomsWithLoops(t *testing.T) {
	checkTrees(t, []tree{
		{"a block that leads to itself", funOf(1, jump(1), branch(0, 1, 2), ret(0)), []int64{-1, 0, 1}, [][]int64{{0}, {0, 1}, {0, 1, 2}}},
		{"a block that leads to itself, else first", funOf(1, jump(1), branch(0, 2, 1), ret(0)), []int64{-1, 0, 1}, [][]int64{{0}, {0, 1}, {0, 1, 2}}},
		{"a loop of two", funOf(1, jump(1), branch(0, 2, 3), jump(1), ret(0)), []int64{-1, 0, 1, 1}, [][]int64{{0}, {0, 1}, {0, 1, 2}, {0, 1, 3}}},
		{"a loop of two, else first", funOf(1, jump(1), branch(0, 3, 2), jump(1), ret(0)), []int64{-1, 0, 1, 1}, [][]int64{{0}, {0, 1}, {0, 1, 2}, {0, 1, 3}}},
		{"loops in loops", funOf(1, jump(1), jump(2), branch(0, 2, 3), branch(0, 1, 4), ret(0)), []int64{-1, 0, 1, 2, 3},
			[][]int64{{0}, {0, 1}, {0, 1, 2}, {0, 1, 2, 3}, {0, 1, 2, 3, 4}}},
		{"a loop into the middle of a way", funOf(1, jump(1), jump(2), jump(3), branch(0, 2, 4), ret(0)), []int64{-1, 0, 1, 2, 3},
			[][]int64{{0}, {0, 1}, {0, 1, 2}, {0, 1, 2, 3}, {0, 1, 2, 3, 4}}},
		{"a loop with two ways in", funOf(1, branch(0, 1, 2), branch(0, 2, 3), jump(1), ret(0)), []int64{-1, 0, 0, 1}, [][]int64{{0}, {0, 1}, {0, 2}, {0, 1, 3}}},
		{"a loop with two ways in, else first", funOf(1, branch(0, 2, 1), branch(0, 2, 3), jump(1), ret(0)), []int64{-1, 0, 0, 1}, [][]int64{{0}, {0, 1}, {0, 2}, {0, 1, 3}}},
		{"two ways into a loop, far apart", funOf(1, jump(1), branch(0, 2, 4), jump(3), jump(4), jump(5), branch(0, 2, 6), ret(0)), []int64{-1, 0, 1, 2, 1, 4, 5},
			[][]int64{{0}, {0, 1}, {0, 1, 2}, {0, 1, 2, 3}, {0, 1, 4}, {0, 1, 4, 5}, {0, 1, 4, 5, 6}}},
		// The first time through it seems that the 3 is come to by the 1 alone.
		{"a way back that takes away later", funOf(1, branch(0, 1, 2), jump(3), branch(0, 4, 5), jump(4), branch(0, 3, 5), jump(4)), []int64{-1, 0, 0, 0, 0, 0},
			[][]int64{{0}, {0, 1}, {0, 2}, {0, 3}, {0, 4}, {0, 5}}},
		{"loops one into the other", funOf(1, branch(0, 3, 4), branch(0, 2, 4), branch(0, 1, 3), branch(0, 2, 5), jump(1), ret(0)), []int64{-1, 0, 0, 0, 0, 3},
			[][]int64{{0}, {0, 1}, {0, 2}, {0, 3}, {0, 4}, {0, 3, 5}}},
	})
}

func TestDomsWithLostBlocks(t *testing.T) {
	checkTrees(t, []tree{
		{"a lost block", funOf(1, ret(0), ret(0)), []int64{-1, -1}, [][]int64{{0}, nil}},
		{"a lost block that leads on", funOf(1, jump(2), jump(2), ret(0)), []int64{-1, -1, 0}, [][]int64{{0}, nil, {0, 2}}},
		{"a lost block that leads past a block", funOf(1, jump(1), jump(2), ret(0), jump(2)), []int64{-1, 0, 1, -1}, [][]int64{{0}, {0, 1}, {0, 1, 2}, nil}},
		{"a lost block that leads past a block, ahead of it", funOf(1, jump(2), jump(3), jump(3), ret(0)), []int64{-1, -1, 0, 2}, [][]int64{{0}, nil, {0, 2}, {0, 2, 3}}},
		{"a lost if into two ways", funOf(1, branch(0, 2, 3), branch(0, 2, 3), jump(4), ret(0), ret(0)), []int64{-1, -1, 0, 0, 2},
			[][]int64{{0}, nil, {0, 2}, {0, 3}, {0, 2, 4}}},
		{"a lost block that leads to itself", funOf(0, jump(1), jump(1), jump(2)), []int64{-1, 0, -1}, [][]int64{{0}, {0, 1}, nil}},
		{"a lost loop", funOf(1, ret(0), jump(2), branch(0, 1, 2)), []int64{-1, -1, -1}, [][]int64{{0}, nil, nil}},
		{"a lost loop that leads on", funOf(1, jump(4), jump(2), branch(0, 1, 3), ret(0), jump(3)), []int64{-1, -1, -1, 4, 0}, [][]int64{{0}, nil, nil, {0, 3, 4}, {0, 4}}},
		{"all that it leads to is lost", funOf(1, ret(0), branch(0, 2, 3), jump(3), ret(0)), []int64{-1, -1, -1, -1}, [][]int64{{0}, nil, nil, nil}},
	})
}

func TestLostBlocksAtEachPlace(t *testing.T) {
	f := funOf(1, branch(0, 1, 2), jump(2), ret(0), branch(0, 1, 4), jump(2))
	for _, lost := range []int64{3, 4} {
		wantNoBlock(t, "a lost block", f, lost)
	}
	if impl.Dominates(f, 3, 4) || impl.Dominates(f, 4, 3) || impl.Dominates(f, 3, 2) || impl.Dominates(f, 4, 2) {
		t.Error("a lost block dominates one that it leads to")
	}
	if impl.IdomOf(f, 0) != -1 || !slices.Equal(impl.DomsOf(f, 0), []int64{0}) || !impl.Dominates(f, 0, 0) {
		t.Errorf("the block 0: IdomOf is %d, DomsOf %v, itself: %v", impl.IdomOf(f, 0), impl.DomsOf(f, 0), impl.Dominates(f, 0, 0))
	}
	for b := int64(1); b < 5; b++ {
		if impl.Dominates(f, b, 0) {
			t.Errorf("block %d dominates the block 0", b)
		}
	}
}

func TestDomsOfAnyNumbers(t *testing.T) {
	loop := funOf(1, jump(1), branch(0, 1, 2), ret(0))
	full := funOf(1, endsOf(impl.MaxBlocks, ret(0), func(b int64) impl.End { return jump(b + 1) })...)
	for what, f := range map[string]impl.Fun{"one block": funOf(1, ret(0)), "loop": loop, "full": fullFun(), "in a row": full, "zero": {}, "no blocks": {Names: 3}} {
		numbers := append([]int64{-2, -1, int64(len(f.Blocks)), impl.MaxBlocks, impl.MaxBlocks + 1, 63, 64, 65, 128, -64, -63, math.MaxInt32}, farNumbers...)
		for _, n := range numbers {
			wantNoPanic(t, fmt.Sprint(what, n), func() { wantNoBlock(t, what, f, n) })
			for _, other := range numbers {
				wantNoPanic(t, fmt.Sprint(what, n, other), func() {
					if impl.Dominates(f, n, other) {
						t.Errorf("%s: Dominates %d, %d is true", what, n, other)
					}
				})
			}
		}
	}
}

func TestDomsInARow(t *testing.T) {
	next := func(b int64) impl.End { return jump(b + 1) }
	for blocks := int64(2); blocks <= impl.MaxBlocks; blocks++ {
		row, loop := funOf(1, endsOf(blocks, ret(0), next)...), funOf(1, endsOf(blocks, jump(1), next)...)
		back := rowBack(blocks)
		for b := range blocks {
			for what, f := range map[string]impl.Fun{"in a row": row, "in a loop": loop} {
				if got := impl.DomsOf(f, b); !slices.Equal(got, rising(0, b)) || impl.IdomOf(f, b) != b-1 {
					t.Errorf("%d blocks %s: DomsOf block %d is %v, IdomOf %d", blocks, what, b, got, impl.IdomOf(f, b))
				}
			}
			want, idom := append([]int64{0}, rising(max(b, 1), blocks-1)...), (b+1)%blocks
			if b == 0 {
				want, idom = []int64{0}, -1
			}
			if got := impl.DomsOf(back, b); !slices.Equal(got, want) || impl.IdomOf(back, b) != idom {
				t.Errorf("%d blocks in a row back: DomsOf block %d is %v, IdomOf %d; want %v and %d", blocks, b, got, impl.IdomOf(back, b), want, idom)
			}
		}
	}
	for what, f := range map[string]impl.Fun{
		"in a row":      funOf(1, endsOf(impl.MaxBlocks, ret(0), next)...),
		"in a loop":     funOf(1, endsOf(impl.MaxBlocks, jump(1), next)...),
		"in a row back": rowBack(impl.MaxBlocks),
	} {
		checkDoms(t, what, f)
		f.Blocks = append(slices.Clone(f.Blocks), impl.Block{End: ret(0)})
		wantNoDoms(t, what+", and a block more", f)
	}
}

// allIfs has an If at the end of each block.
func allIfs(targets func(b int64) (int64, int64)) impl.Fun {
	ends := []impl.End{}
	for b := range int64(impl.MaxBlocks) {
		to, other := targets(b)
		ends = append(ends, branch(0, to, other))
	}
	return funOf(1, ends...)
}

// around has a number for each one, from 1 to the last block, and on from the 1.
func around(n int64) int64 { return (n+lastBlock-1)%lastBlock + 1 }

func TestDomsOfMaxBlocks(t *testing.T) {
	deep := allIfs(func(b int64) (int64, int64) {
		switch b {
		case 0:
			return 1, lastBlock
		case lastBlock - 1, lastBlock:
			return b, 1
		}
		return b + 1, 1
	})
	wide := allIfs(func(b int64) (int64, int64) {
		switch low := 2*b + 1; {
		case low < lastBlock:
			return low, low + 1
		case low == lastBlock:
			return low, 1
		}
		return 1, 2
	})
	ladder := allIfs(func(b int64) (int64, int64) { return around(b + 1), around(b + 2) })
	ladderBack := allIfs(func(b int64) (int64, int64) { return around(b - 1), around(b - 2) })
	fan := funOf(1, endsOf(impl.MaxBlocks, ret(0), func(b int64) impl.End { return jump(lastBlock) })...)
	start := func(b int64) int64 { return 0 }
	onlyLast := func(b int64) int64 { return b/lastBlock - 1 }
	for _, c := range []struct {
		what string
		f    impl.Fun
		idom func(b int64) int64
	}{
		{"each leads on", deep, func(b int64) int64 { return b%lastBlock - min(b%lastBlock, 1) }},
		{"each leads to two", wide, func(b int64) int64 { return (b - 1) / 2 }},
		{"a ladder", ladder, start},
		{"a ladder back", ladderBack, start},
		{"all lead to the last one", fan, onlyLast},
		{"fullest", fullest(), onlyLast},
	} {
		checkDoms(t, c.what, c.f)
		for b := int64(1); b < impl.MaxBlocks; b++ {
			if got, want := impl.IdomOf(c.f, b), c.idom(b); got != want {
				t.Errorf("%s: IdomOf block %d is %d, want %d", c.what, b, got, want)
			}
		}
	}
	if got, want := impl.DomsOf(deep, lastBlock-1), rising(0, lastBlock-1); !slices.Equal(got, want) {
		t.Errorf("each leads on: DomsOf the last but one is %v, want %v", got, want)
	}
}

func TestAllSmallDoms(t *testing.T) {
	for blocks := int64(1); blocks <= 4; blocks++ {
		eachSmallGraph(blocks, func(f impl.Fun) { checkDoms(t, fmt.Sprint(impl.EdgesOf(f)), f) })
	}
}

func TestDomsOfWrongFunctions(t *testing.T) {
	for _, c := range wrongChanges() {
		f := fullFun()
		checkDoms(t, "full", f)
		c.apply(&f)
		if impl.FunOk(f) {
			t.Errorf("%s: FunOk is true", c.what)
		}
		wantNoDoms(t, c.what, f)
	}
}

func TestManyDoms(t *testing.T) {
	r := rand.New(rand.NewSource(11))
	deepest := 0
	for n := range 200 {
		checkDoms(t, fmt.Sprint("function ", n), anyFun(r))
		f := anyGraph(r)
		checkDoms(t, fmt.Sprint("graph ", n), f)
		for b := range int64(len(f.Blocks)) {
			deepest = max(deepest, len(impl.DomsOf(f, b)))
		}
	}
	if deepest < 6 {
		t.Errorf("no block has more than %d that dominate it", deepest)
	}
}

func TestManyDomsChanged(t *testing.T) {
	r := rand.New(rand.NewSource(12))
	values := append([]int64{-1, 0, 1, 2, 3, 12, 39, 40, 149, 150}, farNumbers...)
	for n := range 1000 {
		f := anyFun(r)
		numbers := numbersOf(&f)
		*numbers[r.Intn(len(numbers))] = values[r.Intn(len(values))]
		checkDoms(t, fmt.Sprint("changed function ", n), f)
	}
}

func TestDomsDoNotPanic(t *testing.T) {
	r := rand.New(rand.NewSource(13))
	for n := range 4000 {
		f := wildFun(r)
		if n%2 == 0 {
			f.Params, f.Names = 0, r.Int63n(impl.MaxNames+1)
		}
		wantNoPanic(t, fmt.Sprintf("wild function %d: %v", n, f), func() {
			checkDoms(t, f, f)
			wantNoBlock(t, f, f, farNumbers[r.Intn(len(farNumbers))])
		})
	}
	many := funOf(1, slices.Repeat([]impl.End{jump(1)}, 10000)...)
	wantNoPanic(t, "many blocks", func() { wantNoDoms(t, "many blocks", many) })
}

func TestDomsAreNewMemory(t *testing.T) {
	wrong := fullFun()
	wrong.Names = 1
	row := funOf(1, endsOf(impl.MaxBlocks, ret(0), func(b int64) impl.End { return jump(b + 1) })...)
	for what, f := range map[string]impl.Fun{"full": fullFun(), "in a row": row, "one block": funOf(1, ret(0)), "wrong": wrong, "zero": {}} {
		for b := int64(-1); b <= impl.MaxBlocks; b++ {
			wantNewMemory(t, fmt.Sprintf("%s: DomsOf block %d", what, b), func() []int64 { return impl.DomsOf(f, b) })
		}
	}
}

func TestDomsStay(t *testing.T) {
	r := rand.New(rand.NewSource(14))
	funs := []impl.Fun{{}, fullFun(), fullest(), funOf(1, ret(0)), funOf(0, jump(1), jump(1)), funOf(1, jump(0))}
	for range 60 {
		funs = append(funs, anyFun(r), anyGraph(r), wildFun(r))
	}
	for at, f := range funs {
		wantFunStays(t, fmt.Sprintf("function %d: DomsOf", at), f, func(f impl.Fun) {
			for b := int64(-1); b <= 5; b++ {
				overwrite(impl.DomsOf(f, b), -7)
			}
		})
		wantFunStays(t, fmt.Sprintf("function %d: IdomOf", at), f, func(f impl.Fun) {
			for b := int64(-1); b <= 5; b++ {
				impl.IdomOf(f, b)
			}
		})
		wantFunStays(t, fmt.Sprintf("function %d: Dominates", at), f, func(f impl.Fun) {
			for b := int64(-1); b <= 5; b++ {
				impl.Dominates(f, 0, b)
				impl.Dominates(f, b, 1)
			}
		})
	}
}
