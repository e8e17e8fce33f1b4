package tests

import (
	"fmt"
	"math"
	"math/rand"
	"slices"
	"testing"

	"loop.example/g00823/impl"
)

func edge(from int64, to int64) impl.Edge { return impl.Edge{From: from, To: to} }

// reachedRight spreads from the block 0 along all edges until nothing is new, in no order of a walk.
func reachedRight(f impl.Fun) []bool {
	reached := make([]bool, len(f.Blocks))
	reached[0] = true
	for range f.Blocks {
		for _, e := range edgesRight(f) {
			reached[e[1]] = reached[e[1]] || reached[e[0]]
		}
	}
	return reached
}

// orderRight keeps the way that it is on as a list, and how many succs of each block it has looked at.
func orderRight(f impl.Fun) []int64 {
	order := []int64{}
	looked := map[int64]int{0: 0}
	for way := []int64{0}; len(way) > 0; {
		at := way[len(way)-1]
		succs := succsRight(f.Blocks[at].End)
		if looked[at] == len(succs) {
			order = slices.Insert(order, 0, at)
			way = way[:len(way)-1]
			continue
		}
		to := succs[looked[at]]
		looked[at]++
		if _, come := looked[to]; !come {
			looked[to] = 0
			way = append(way, to)
		}
	}
	return order
}

// criticalRight counts the edges out of From and into To.
func criticalRight(f impl.Fun, e impl.Edge) bool {
	there, out, in := false, 0, 0
	for _, other := range edgesRight(f) {
		there = there || other == [2]int64{e.From, e.To}
		if other[0] == e.From {
			out++
		}
		if other[1] == e.To {
			in++
		}
	}
	return there && out > 1 && in > 1
}

// checkGraph holds the four calls against what chapter 3 says of the function.
func checkGraph(t *testing.T, what any, f impl.Fun) {
	t.Helper()
	if funWrong(f) != "" {
		wantNoGraph(t, what, f)
		return
	}
	if got, want := impl.Reached(f), reachedRight(f); !slices.Equal(got, want) {
		t.Errorf("%v: Reached is %v, want %v", what, got, want)
	}
	if got, want := impl.OrderOf(f), orderRight(f); !slices.Equal(got, want) {
		t.Errorf("%v: OrderOf is %v, want %v", what, got, want)
	}
	wantEdges(t, what, f)
	wantPromisedOrder(t, what, f)
}

func wantEdges(t *testing.T, what any, f impl.Fun) {
	t.Helper()
	want := []impl.Edge{}
	for _, e := range edgesRight(f) {
		want = append(want, edge(e[0], e[1]))
	}
	if got := impl.EdgesOf(f); !slices.Equal(got, want) {
		t.Errorf("%v: EdgesOf is %v, want %v", what, got, want)
	}
	for _, e := range want {
		checkCritical(t, what, f, e)
		checkCritical(t, what, f, edge(e.To, e.From))
	}
}

func checkCritical(t *testing.T, what any, f impl.Fun, e impl.Edge) {
	t.Helper()
	if got, want := impl.Critical(f, e), criticalRight(f, e); got != want {
		t.Errorf("%v: Critical %v is %v, want %v", what, e, got, want)
	}
}

// checkAllCritical asks of all pairs of blocks, and of the numbers around them.
func checkAllCritical(t *testing.T, what any, f impl.Fun) {
	t.Helper()
	blocks := int64(len(f.Blocks))
	for from := int64(-2); from <= blocks+1; from++ {
		for to := int64(-2); to <= blocks+1; to++ {
			checkCritical(t, what, f, edge(from, to))
		}
	}
}

// promiseBroken says what promise 3 does not hold of, asked of the program alone; nothing where it holds.
func promiseBroken(f impl.Fun, order []int64) string {
	reached, times := impl.Reached(f), make([]int, len(f.Blocks))
	if len(reached) != len(f.Blocks) || len(order) == 0 || order[0] != 0 {
		return fmt.Sprint("not each block is told of, or the block 0 is not the first one: ", reached)
	}
	for at, b := range order {
		if b < 0 || b >= int64(len(f.Blocks)) {
			return fmt.Sprint("there is no block ", b)
		}
		times[b]++
		preds := impl.PredsOf(f, b)
		behind := slices.ContainsFunc(preds, func(pred int64) bool { return slices.Contains(order[:at], pred) })
		if b != 0 && !behind {
			return fmt.Sprintf("block %d is behind none of its preds %v", b, preds)
		}
	}
	for b, n := range times {
		if n > 1 || (n == 1) != reached[b] {
			return fmt.Sprintf("block %d is in it %d times; reached: %v", b, n, reached[b])
		}
	}
	return ""
}

func wantPromisedOrder(t *testing.T, what any, f impl.Fun) {
	t.Helper()
	order := impl.OrderOf(f)
	if broken := promiseBroken(f, order); broken != "" {
		t.Errorf("%v: the order %v: %s", what, order, broken)
	}
}

// wantNoGraph is what is answered of a function that is not right.
func wantNoGraph(t *testing.T, what any, f impl.Fun) {
	t.Helper()
	if got := impl.Reached(f); len(got) != 0 {
		t.Errorf("%v: Reached is %v, want nothing", what, got)
	}
	if got := impl.OrderOf(f); len(got) != 0 {
		t.Errorf("%v: OrderOf is %v, want nothing", what, got)
	}
	if got := impl.EdgesOf(f); len(got) != 0 {
		t.Errorf("%v: EdgesOf is %v, want nothing", what, got)
	}
	if len(f.Blocks) > impl.MaxBlocks {
		f.Blocks = f.Blocks[:impl.MaxBlocks+1]
	}
	for from, b := range f.Blocks {
		for _, e := range []impl.Edge{edge(int64(from), b.End.To), edge(int64(from), b.End.Else), edge(b.End.To, int64(from))} {
			if impl.Critical(f, e) {
				t.Errorf("%v: Critical %v is true, want false", what, e)
			}
		}
	}
	if impl.Critical(f, impl.Edge{}) {
		t.Errorf("%v: Critical of the zero Edge is true, want false", what)
	}
}

// graph is a function and all that chapter 3 tells of it.
type graph struct {
	what     string
	f        impl.Fun
	lost     []int64
	order    []int64
	edges    []impl.Edge
	critical []impl.Edge
}

func checkToldGraphs(t *testing.T, graphs []graph) {
	t.Helper()
	for _, g := range graphs {
		reached := impl.Reached(g.f)
		if len(reached) != len(g.f.Blocks) {
			t.Errorf("%s: Reached is %v, want one of each of %d blocks", g.what, reached, len(g.f.Blocks))
		}
		for b, is := range reached {
			if is == slices.Contains(g.lost, int64(b)) {
				t.Errorf("%s: Reached of block %d is %v", g.what, b, is)
			}
		}
		if got := impl.OrderOf(g.f); !slices.Equal(got, g.order) {
			t.Errorf("%s: OrderOf is %v, want %v", g.what, got, g.order)
		}
		edges := impl.EdgesOf(g.f)
		if !slices.Equal(edges, g.edges) {
			t.Errorf("%s: EdgesOf is %v, want %v", g.what, edges, g.edges)
		}
		critical := slices.DeleteFunc(edges, func(e impl.Edge) bool { return !impl.Critical(g.f, e) })
		if !slices.Equal(critical, g.critical) {
			t.Errorf("%s: the critical edges are %v, want %v", g.what, critical, g.critical)
		}
		checkGraph(t, g.what, g.f)
		checkAllCritical(t, g.what, g.f)
	}
}

func TestGraphsWithoutLoops(t *testing.T) {
	checkToldGraphs(t, []graph{
		{"one block", funOf(1, ret(0)), nil, []int64{0}, nil, nil},
		{"a jump", funOf(1, jump(1), ret(0)), nil, []int64{0, 1}, []impl.Edge{edge(0, 1)}, nil},
		{"jumps", funOf(1, jump(1), jump(2), ret(0)), nil, []int64{0, 1, 2}, []impl.Edge{edge(0, 1), edge(1, 2)}, nil},
		{"jumps back", funOf(1, jump(3), ret(0), jump(1), jump(2)), nil, []int64{0, 3, 2, 1}, []impl.Edge{edge(0, 3), edge(2, 1), edge(3, 2)}, nil},
		{"an if", funOf(1, branch(0, 1, 2), ret(0), ret(0)), nil, []int64{0, 2, 1}, []impl.Edge{edge(0, 1), edge(0, 2)}, nil},
		{"an if, else first", funOf(1, branch(0, 2, 1), ret(0), ret(0)), nil, []int64{0, 1, 2}, []impl.Edge{edge(0, 2), edge(0, 1)}, nil},
		{"ways that meet", funOf(1, branch(0, 1, 2), jump(3), jump(3), ret(0)), nil,
			[]int64{0, 2, 1, 3}, []impl.Edge{edge(0, 1), edge(0, 2), edge(1, 3), edge(2, 3)}, nil},
		{"ways that meet, else first", funOf(1, branch(0, 2, 1), jump(3), jump(3), ret(0)), nil,
			[]int64{0, 1, 2, 3}, []impl.Edge{edge(0, 2), edge(0, 1), edge(1, 3), edge(2, 3)}, nil},
		{"an if past a block", funOf(1, branch(0, 1, 2), jump(2), ret(0)), nil,
			[]int64{0, 1, 2}, []impl.Edge{edge(0, 1), edge(0, 2), edge(1, 2)}, []impl.Edge{edge(0, 2)}},
		{"an if past a block, else first", funOf(1, branch(0, 2, 1), jump(2), ret(0)), nil,
			[]int64{0, 1, 2}, []impl.Edge{edge(0, 2), edge(0, 1), edge(1, 2)}, []impl.Edge{edge(0, 2)}},
		{"ifs past each other", funOf(1, branch(0, 1, 2), branch(0, 3, 4), branch(0, 3, 4), ret(0), ret(0)), nil,
			[]int64{0, 2, 1, 4, 3}, []impl.Edge{edge(0, 1), edge(0, 2), edge(1, 3), edge(1, 4), edge(2, 3), edge(2, 4)},
			[]impl.Edge{edge(1, 3), edge(1, 4), edge(2, 3), edge(2, 4)}},
		{"a short way and a long one", funOf(1, branch(0, 1, 2), jump(4), jump(3), jump(4), ret(0)), nil,
			[]int64{0, 2, 3, 1, 4}, []impl.Edge{edge(0, 1), edge(0, 2), edge(1, 4), edge(2, 3), edge(3, 4)}, nil},
		{"a long way and a short one", funOf(1, branch(0, 2, 1), jump(4), jump(3), jump(4), ret(0)), nil,
			[]int64{0, 1, 2, 3, 4}, []impl.Edge{edge(0, 2), edge(0, 1), edge(1, 4), edge(2, 3), edge(3, 4)}, nil},
		{"a block seen from afar first", funOf(1, branch(0, 1, 2), branch(0, 2, 3), jump(4), jump(4), ret(0)), nil,
			[]int64{0, 1, 3, 2, 4}, []impl.Edge{edge(0, 1), edge(0, 2), edge(1, 2), edge(1, 3), edge(2, 4), edge(3, 4)},
			[]impl.Edge{edge(0, 2), edge(1, 2)}},
	})
}

func TestGraphsWithLoops(t *testing.T) {
	checkToldGraphs(t, []graph{
		{"a block that leads to itself", funOf(1, jump(1), branch(0, 1, 2), ret(0)), nil,
			[]int64{0, 1, 2}, []impl.Edge{edge(0, 1), edge(1, 1), edge(1, 2)}, []impl.Edge{edge(1, 1)}},
		{"a block that leads to itself, else first", funOf(1, jump(1), branch(0, 2, 1), ret(0)), nil,
			[]int64{0, 1, 2}, []impl.Edge{edge(0, 1), edge(1, 2), edge(1, 1)}, []impl.Edge{edge(1, 1)}},
		{"a block that jumps to itself", funOf(0, jump(1), jump(1)), nil,
			[]int64{0, 1}, []impl.Edge{edge(0, 1), edge(1, 1)}, nil},
		{"a loop of two", funOf(1, jump(1), branch(0, 2, 3), jump(1), ret(0)), nil,
			[]int64{0, 1, 3, 2}, []impl.Edge{edge(0, 1), edge(1, 2), edge(1, 3), edge(2, 1)}, nil},
		{"a loop of two, else first", funOf(1, jump(1), branch(0, 3, 2), jump(1), ret(0)), nil,
			[]int64{0, 1, 2, 3}, []impl.Edge{edge(0, 1), edge(1, 3), edge(1, 2), edge(2, 1)}, nil},
		{"loops in loops", funOf(1, jump(1), jump(2), branch(0, 2, 3), branch(0, 1, 4), ret(0)), nil,
			[]int64{0, 1, 2, 3, 4}, []impl.Edge{edge(0, 1), edge(1, 2), edge(2, 2), edge(2, 3), edge(3, 1), edge(3, 4)},
			[]impl.Edge{edge(2, 2), edge(3, 1)}},
		{"a loop with two ways in", funOf(1, branch(0, 1, 2), branch(0, 2, 3), jump(1), ret(0)), nil,
			[]int64{0, 1, 3, 2}, []impl.Edge{edge(0, 1), edge(0, 2), edge(1, 2), edge(1, 3), edge(2, 1)},
			[]impl.Edge{edge(0, 1), edge(0, 2), edge(1, 2)}},
		{"a loop with two ways in, else first", funOf(1, branch(0, 2, 1), branch(0, 2, 3), jump(1), ret(0)), nil,
			[]int64{0, 2, 1, 3}, []impl.Edge{edge(0, 2), edge(0, 1), edge(1, 2), edge(1, 3), edge(2, 1)},
			[]impl.Edge{edge(0, 2), edge(0, 1), edge(1, 2)}},
		{"two loops from one block", funOf(1, jump(1), branch(0, 2, 3), jump(1), branch(0, 1, 4), ret(0)), nil,
			[]int64{0, 1, 3, 4, 2}, []impl.Edge{edge(0, 1), edge(1, 2), edge(1, 3), edge(2, 1), edge(3, 1), edge(3, 4)},
			[]impl.Edge{edge(3, 1)}},
	})
}

func TestGraphsWithLostBlocks(t *testing.T) {
	checkToldGraphs(t, []graph{
		{"a lost block", funOf(1, ret(0), ret(0)), []int64{1}, []int64{0}, nil, nil},
		{"a lost block that leads on", funOf(1, jump(2), jump(2), ret(0)), []int64{1}, []int64{0, 2},
			[]impl.Edge{edge(0, 2), edge(1, 2)}, nil},
		{"a lost block makes an edge critical", funOf(1, branch(0, 1, 2), ret(0), ret(0), jump(2)), []int64{3}, []int64{0, 2, 1},
			[]impl.Edge{edge(0, 1), edge(0, 2), edge(3, 2)}, []impl.Edge{edge(0, 2)}},
		{"a critical edge of a lost block", funOf(1, jump(2), branch(0, 2, 3), ret(0), ret(0)), []int64{1, 3}, []int64{0, 2},
			[]impl.Edge{edge(0, 2), edge(1, 2), edge(1, 3)}, []impl.Edge{edge(1, 2)}},
		{"a lost if, else first", funOf(1, ret(0), branch(0, 3, 2), ret(0), jump(2)), []int64{1, 2, 3}, []int64{0},
			[]impl.Edge{edge(1, 3), edge(1, 2), edge(3, 2)}, []impl.Edge{edge(1, 2)}},
		{"a lost block that leads to itself", funOf(0, jump(1), jump(1), jump(2)), []int64{2}, []int64{0, 1},
			[]impl.Edge{edge(0, 1), edge(1, 1), edge(2, 2)}, nil},
		{"a lost loop", funOf(1, ret(0), jump(2), branch(0, 1, 2)), []int64{1, 2}, []int64{0},
			[]impl.Edge{edge(1, 2), edge(2, 1), edge(2, 2)}, []impl.Edge{edge(2, 2)}},
		{"lost blocks between", funOf(1, jump(4), jump(2), jump(4), ret(0), branch(0, 6, 5), ret(0), ret(0)), []int64{1, 2, 3}, []int64{0, 4, 5, 6},
			[]impl.Edge{edge(0, 4), edge(1, 2), edge(2, 4), edge(4, 6), edge(4, 5)}, nil},
	})
}

// Promise 3 alone lets each of the other orders pass, too.
func TestOrderAmongOthers(t *testing.T) {
	for _, c := range []struct {
		what   string
		f      impl.Fun
		want   []int64
		others [][]int64
	}{
		{"an if", funOf(1, branch(0, 1, 2), ret(0), ret(0)), []int64{0, 2, 1}, [][]int64{{0, 1, 2}}},
		{"an if, else first", funOf(1, branch(0, 2, 1), ret(0), ret(0)), []int64{0, 1, 2}, [][]int64{{0, 2, 1}}},
		{"ways that meet", funOf(1, branch(0, 1, 2), jump(3), jump(3), ret(0)), []int64{0, 2, 1, 3},
			[][]int64{{0, 1, 2, 3}, {0, 1, 3, 2}, {0, 2, 3, 1}}},
		{"a far block by a short way", funOf(1, branch(0, 1, 2), branch(0, 2, 3), jump(4), jump(4), ret(0)), []int64{0, 1, 3, 2, 4},
			[][]int64{{0, 1, 2, 3, 4}, {0, 1, 2, 4, 3}, {0, 2, 1, 4, 3}, {0, 2, 4, 1, 3}}},
		{"a tree", funOf(1, branch(0, 1, 2), branch(0, 3, 4), branch(0, 5, 6), ret(0), ret(0), ret(0), ret(0)), []int64{0, 2, 6, 5, 1, 4, 3},
			[][]int64{{0, 1, 2, 3, 4, 5, 6}, {0, 1, 3, 4, 2, 5, 6}, {0, 2, 1, 6, 5, 4, 3}}},
		{"a loop that is left", funOf(1, jump(1), branch(0, 2, 3), jump(1), ret(0)), []int64{0, 1, 3, 2}, [][]int64{{0, 1, 2, 3}}},
		{"a loop that is left first", funOf(1, jump(1), branch(0, 3, 2), jump(1), ret(0)), []int64{0, 1, 2, 3}, [][]int64{{0, 1, 3, 2}}},
		{"a loop with two ways in", funOf(1, branch(0, 1, 2), jump(2), branch(0, 1, 3), ret(0)), []int64{0, 1, 2, 3},
			[][]int64{{0, 2, 1, 3}, {0, 2, 3, 1}}},
		{"and by the other one", funOf(1, branch(0, 2, 1), jump(2), branch(0, 1, 3), ret(0)), []int64{0, 2, 3, 1},
			[][]int64{{0, 1, 2, 3}, {0, 2, 1, 3}}},
	} {
		if got := impl.OrderOf(c.f); !slices.Equal(got, c.want) {
			t.Errorf("%s: OrderOf is %v, want %v", c.what, got, c.want)
		}
		for _, other := range c.others {
			if broken := promiseBroken(c.f, other); broken != "" {
				t.Errorf("%s: the other order %v is not right: %s", c.what, other, broken)
			}
		}
		checkGraph(t, c.what, c.f)
	}
}

// rising has the numbers from low to high.
func rising(low int64, high int64) []int64 {
	list := []int64{}
	for n := low; n <= high; n++ {
		list = append(list, n)
	}
	return list
}

// endsOf has one End of each block but the last one, and this last one.
func endsOf(blocks int64, last impl.End, end func(b int64) impl.End) []impl.End {
	ends := []impl.End{}
	for b := range blocks - 1 {
		ends = append(ends, end(b))
	}
	return append(ends, last)
}

// rowBack goes from the block 0 to the last one, and from there down to the block 1, which leads to itself.
func rowBack(blocks int64) impl.Fun {
	down := func(b int64) impl.End { return jump(max(b-1, 1)) }
	f := funOf(1, endsOf(blocks, down(blocks-1), down)...)
	f.Blocks[0].End = jump(blocks - 1)
	return f
}

func TestGraphsOfAllSizes(t *testing.T) {
	next := func(b int64) impl.End { return jump(b + 1) }
	for blocks := int64(2); blocks <= impl.MaxBlocks; blocks++ {
		up, down := rising(0, blocks-1), rising(0, blocks-1)
		slices.Reverse(down[1:])
		for _, c := range []struct {
			what  string
			f     impl.Fun
			order []int64
		}{
			{"in a row", funOf(1, endsOf(blocks, ret(0), next)...), up},
			{"in a loop", funOf(1, endsOf(blocks, jump(1), next)...), up},
			{"in a row back", rowBack(blocks), down},
		} {
			what := fmt.Sprintf("%d blocks %s", blocks, c.what)
			if got := impl.OrderOf(c.f); !slices.Equal(got, c.order) {
				t.Errorf("%s: OrderOf is %v, want %v", what, got, c.order)
			}
			if got := impl.Reached(c.f); slices.Contains(got, false) {
				t.Errorf("%s: Reached is %v, want all of them", what, got)
			}
			checkGraph(t, what, c.f)
		}
	}
}

func TestGraphsOfMaxBlocks(t *testing.T) {
	back := funOf(1, endsOf(impl.MaxBlocks, jump(1), func(b int64) impl.End {
		if b == 0 {
			return jump(1)
		}
		return branch(0, b+1, 1)
	})...)
	// So many ways lead on that a walk which comes to a block more than once does not end in time.
	ladder := funOf(1, endsOf(impl.MaxBlocks, ret(0), func(b int64) impl.End {
		if b+2 == impl.MaxBlocks {
			return jump(b + 1)
		}
		return branch(0, b+2, b+1)
	})...)
	fan := funOf(1, endsOf(impl.MaxBlocks, ret(0), func(b int64) impl.End { return jump(lastBlock) })...)
	all := rising(0, lastBlock)
	for _, c := range []struct {
		what     string
		f        impl.Fun
		order    []int64
		edges    int
		critical int
	}{
		{"each block leads on and back", back, all, 2*(impl.MaxBlocks-2) + 2, impl.MaxBlocks - 2},
		{"a ladder", ladder, all, 2*(impl.MaxBlocks-2) + 1, 2*(impl.MaxBlocks-2) - 1},
		{"all lead to the last one", fan, []int64{0, lastBlock}, impl.MaxBlocks - 1, 0},
		{"fullest", fullest(), []int64{0, lastBlock}, impl.MaxBlocks - 1, 0},
	} {
		critical := 0
		for _, e := range impl.EdgesOf(c.f) {
			if impl.Critical(c.f, e) {
				critical++
			}
		}
		if got := impl.OrderOf(c.f); !slices.Equal(got, c.order) || len(impl.EdgesOf(c.f)) != c.edges || critical != c.critical {
			t.Errorf("%s: OrderOf is %v, %d edges, %d critical; want %v, %d and %d", c.what, got, len(impl.EdgesOf(c.f)), critical, c.order, c.edges, c.critical)
		}
		checkGraph(t, c.what, c.f)
		checkAllCritical(t, c.what, c.f)
		c.f.Blocks = append(slices.Clone(c.f.Blocks), impl.Block{End: ret(0)})
		wantNoGraph(t, c.what+", and a block more", c.f)
	}
}

// eachSmallGraph calls with each function of so many blocks, as far as their edges go.
func eachSmallGraph(blocks int64, call func(f impl.Fun)) {
	ends := []impl.End{ret(0)}
	for to := int64(1); to < blocks; to++ {
		ends = append(ends, jump(to))
		for other := int64(1); other < blocks; other++ {
			if other != to {
				ends = append(ends, branch(0, to, other))
			}
		}
	}
	eachEndFrom(funOf(1, slices.Repeat(ends[:1], int(blocks))...), ends, 0, call)
}

// eachEndFrom gives the blocks from one on each of the ends.
func eachEndFrom(f impl.Fun, ends []impl.End, from int, call func(f impl.Fun)) {
	if from == len(f.Blocks) {
		call(f)
		return
	}
	for _, e := range ends {
		f.Blocks[from].End = e
		eachEndFrom(f, ends, from+1, call)
	}
}

func TestAllSmallGraphs(t *testing.T) {
	for blocks := int64(1); blocks <= 4; blocks++ {
		eachSmallGraph(blocks, func(f impl.Fun) {
			what := fmt.Sprint(impl.EdgesOf(f))
			checkGraph(t, what, f)
			checkAllCritical(t, what, f)
		})
	}
}

func TestCriticalOfAnyNumbers(t *testing.T) {
	numbers := append([]int64{-2, -1, 0, 1, 2, 3, 4, 5, lastBlock, impl.MaxBlocks, impl.MaxBlocks + 1, math.MaxInt32}, farNumbers...)
	loop := funOf(1, jump(1), branch(0, 1, 2), ret(0))
	wrong := fullFun()
	wrong.Names = 9
	for what, f := range map[string]impl.Fun{"loop": loop, "full": fullFun(), "fullest": fullest()} {
		for _, from := range numbers {
			for _, to := range numbers {
				wantNoPanic(t, fmt.Sprint(what, edge(from, to)), func() { checkCritical(t, what, f, edge(from, to)) })
			}
		}
	}
	for what, f := range map[string]impl.Fun{"wrong": wrong, "zero": {}, "no blocks": {Names: 3}} {
		for _, from := range numbers {
			for _, to := range numbers {
				wantNoPanic(t, fmt.Sprint(what, edge(from, to)), func() {
					if impl.Critical(f, edge(from, to)) {
						t.Errorf("%s: Critical %v is true", what, edge(from, to))
					}
				})
			}
		}
	}
	for _, e := range []impl.Edge{edge(0, 1), edge(1, 3), edge(4, 3), edge(3, 2), edge(2, 0)} {
		if impl.Critical(fullFun(), e) {
			t.Errorf("full: Critical %v is true, want false", e)
		}
	}
	for _, e := range []impl.Edge{edge(0, 2), edge(2, 3), edge(2, 2)} {
		if !impl.Critical(fullFun(), e) {
			t.Errorf("full: Critical %v is false, want true", e)
		}
	}
}

// wrongChanges each make a full function wrong.
func wrongChanges() []change {
	return []change{
		{"a name too few", false, func(f *impl.Fun) { f.Names = 9 }},
		{"too many params", false, func(f *impl.Fun) { f.Params = 7 }},
		{"no blocks", false, func(f *impl.Fun) { f.Blocks = nil }},
		{"an empty list of blocks", false, func(f *impl.Fun) { f.Blocks = []impl.Block{} }},
		{"the zero function", false, func(f *impl.Fun) { *f = impl.Fun{} }},
		{"a block leads to the block 0", false, func(f *impl.Fun) { f.Blocks[4].End = jump(0) }},
		{"the block 0 alone, in a loop", false, func(f *impl.Fun) { *f = funOf(1, jump(0)) }},
		{"a loop by the block 0", false, func(f *impl.Fun) { *f = funOf(1, branch(0, 1, 2), branch(0, 2, 0), ret(0)) }},
		{"a target that is not there", false, func(f *impl.Fun) { f.Blocks[4].End = jump(5) }},
		{"a target below 0", false, func(f *impl.Fun) { f.Blocks[4].End = jump(-1) }},
		{"an if to one block twice", false, func(f *impl.Fun) { f.Blocks[0].End = branch(1, 2, 2) }},
		{"an end of no kind", false, func(f *impl.Fun) { f.Blocks[4].End = impl.End{} }},
		{"an arg too few", false, func(f *impl.Fun) { f.Blocks[3].Phis[0].Args = []int64{1, 2} }},
		{"phis in the block 0", false, func(f *impl.Fun) { f.Blocks[0].Phis = []impl.Phi{phi(1)} }},
		{"a wrong instruction in a lost block", false, func(f *impl.Fun) { f.Blocks[4].Body = []impl.Ins{{}} }},
		{"two moves to one name", false, func(f *impl.Fun) { f.Blocks[4].Head = []impl.Move{move(1, 2), move(1, 3)} }},
	}
}

func TestGraphsOfWrongFunctions(t *testing.T) {
	edges := []impl.Edge{edge(0, 1), edge(0, 2), edge(2, 2), edge(2, 3), edge(1, 3)}
	for _, c := range wrongChanges() {
		f := fullFun()
		checkGraph(t, "full", f)
		c.apply(&f)
		if impl.FunOk(f) {
			t.Errorf("%s: FunOk is true", c.what)
		}
		wantNoGraph(t, c.what, f)
		for _, e := range edges {
			if impl.Critical(f, e) {
				t.Errorf("%s: Critical %v is true", c.what, e)
			}
		}
	}
}

// anyGraph has only edges, but as many blocks as there may be.
func anyGraph(r *rand.Rand) impl.Fun {
	blocks := 1 + r.Int63n(impl.MaxBlocks)
	f := funOf(3, make([]impl.End, blocks)...)
	for at := range f.Blocks {
		f.Blocks[at].End = anyEnd(r, 3, blocks)
		for n := r.Intn(4); n > 0 && f.Blocks[at].End.Kind != impl.EdIf; n-- {
			f.Blocks[at].End = anyEnd(r, 3, blocks)
		}
	}
	return f
}

func TestManyGraphs(t *testing.T) {
	r := rand.New(rand.NewSource(7))
	most := 0
	for n := range 1000 {
		checkGraph(t, fmt.Sprint("function ", n), anyFun(r))
		f := anyGraph(r)
		checkGraph(t, fmt.Sprint("graph ", n), f)
		most = max(most, len(impl.OrderOf(f)))
		if n%40 == 0 {
			checkAllCritical(t, fmt.Sprint("graph ", n), f)
		}
	}
	if most < impl.MaxBlocks/2 {
		t.Errorf("no graph has more than %d blocks that are reached", most)
	}
}

func TestManyGraphsChanged(t *testing.T) {
	r := rand.New(rand.NewSource(8))
	values := append([]int64{-1, 0, 1, 2, 3, 12, 39, 40, 149, 150}, farNumbers...)
	for n := range 3000 {
		f := anyFun(r)
		numbers := numbersOf(&f)
		*numbers[r.Intn(len(numbers))] = values[r.Intn(len(values))]
		checkGraph(t, fmt.Sprint("changed function ", n), f)
	}
}

func TestGraphsDoNotPanic(t *testing.T) {
	r := rand.New(rand.NewSource(9))
	for n := range 10000 {
		f := wildFun(r)
		if n%2 == 0 {
			f.Params, f.Names = 0, r.Int63n(impl.MaxNames+1)
		}
		wantNoPanic(t, fmt.Sprintf("wild function %d: %v", n, f), func() {
			checkGraph(t, f, f)
			impl.Critical(f, edge(farNumbers[r.Intn(len(farNumbers))], r.Int63n(10)-2))
		})
	}
	many := funOf(1, slices.Repeat([]impl.End{jump(1)}, 100000)...)
	wantNoPanic(t, "many blocks", func() { wantNoGraph(t, "many blocks", many) })
}

func TestGraphsAreNewMemory(t *testing.T) {
	wrong := fullFun()
	wrong.Names = 1
	for what, f := range map[string]impl.Fun{"full": fullFun(), "fullest": fullest(), "one block": funOf(1, ret(0)), "wrong": wrong, "zero": {}} {
		wantNewLists(t, what+": Reached", func() []bool { return impl.Reached(f) }, false, true)
		wantNewMemory(t, what+": OrderOf", func() []int64 { return impl.OrderOf(f) })
		wantNewLists(t, what+": EdgesOf", func() []impl.Edge { return impl.EdgesOf(f) }, edge(-7, -7), edge(-8, -8))
	}
}

// overwrite writes all over a list, and all over the spare room behind it.
func overwrite[T any](list []T, with T) {
	all := list[:cap(list)]
	for at := range all {
		all[at] = with
	}
}

func TestGraphsStay(t *testing.T) {
	r := rand.New(rand.NewSource(10))
	funs := []impl.Fun{{}, fullFun(), fullest(), funOf(1, ret(0)), funOf(0, jump(1), jump(1)), funOf(1, jump(0))}
	for range 100 {
		funs = append(funs, anyFun(r), anyGraph(r), wildFun(r))
	}
	for at, f := range funs {
		wantFunStays(t, fmt.Sprintf("function %d: Reached", at), f, func(f impl.Fun) { overwrite(impl.Reached(f), true) })
		wantFunStays(t, fmt.Sprintf("function %d: OrderOf", at), f, func(f impl.Fun) { overwrite(impl.OrderOf(f), -7) })
		wantFunStays(t, fmt.Sprintf("function %d: EdgesOf", at), f, func(f impl.Fun) { overwrite(impl.EdgesOf(f), edge(-7, -7)) })
		wantFunStays(t, fmt.Sprintf("function %d: Critical", at), f, func(f impl.Fun) {
			for _, e := range []impl.Edge{edge(0, 1), edge(1, 1), edge(2, 3), edge(-1, 0), edge(0, math.MaxInt64)} {
				impl.Critical(f, e)
			}
		})
	}
}
