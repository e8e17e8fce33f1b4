package tests

import (
	"fmt"
	"maps"
	"math/rand"
	"reflect"
	"slices"
	"testing"

	"loop.example/g00823/impl"
)

// values are those of all names; one that is not there has the value 0.
type values map[int64]int64

// telling stands where the name of a giving would: the value is told.
const telling = -1

// giving is of one name, by the values ahead of it.
type giving struct {
	to int64
	of func(v values) int64
}

func copying(to int64, from int64) giving {
	return giving{to, func(v values) int64 { return v[from] }}
}

func movesGive(moves []impl.Move) []giving {
	all := []giving{}
	for _, m := range moves {
		all = append(all, copying(m.To, m.From))
	}
	return all
}

func insGives(i impl.Ins) giving {
	switch i.Op {
	case 1:
		return giving{i.Var, func(values) int64 { return i.A }}
	case 2:
		return copying(i.Var, i.A)
	case 7:
		return copying(telling, i.A)
	}
	return giving{i.Var, func(v values) int64 { return reckonedRight(i.Op, v[i.A], v[i.B]) }}
}

// visitRight has what is done in a visit, one after the other; what is in one list is done all at once.
func visitRight(f impl.Fun, way []int64) [][]giving {
	at := way[len(way)-1]
	b := f.Blocks[at]
	phis := []giving{}
	for _, p := range b.Phis {
		for i, pred := range predsRight(f, at) {
			if pred == way[len(way)-2] {
				phis = append(phis, copying(p.Var, p.Args[i]))
			}
		}
	}
	visit := [][]giving{phis, movesGive(b.Head)}
	for _, i := range b.Body {
		visit = append(visit, []giving{insGives(i)})
	}
	return append(visit, movesGive(b.Tail))
}

// cannotRun says why a call is StBad; nothing where it is not.
func cannotRun(f impl.Fun, args []int64, fuel int64) string {
	if wrong := funWrong(f); wrong != "" {
		return wrong
	}
	for _, arg := range args {
		if arg < 0 || arg > 1000002 {
			return "arg"
		}
	}
	switch {
	case int64(len(args)) != f.Params:
		return "count of args"
	case fuel < 0 || fuel > 500:
		return "fuel"
	}
	return ""
}

// runRight keeps the whole way, and all values anew behind each thing that is done.
func runRight(f impl.Fun, args []int64, fuel int64) impl.Out {
	out := impl.Out{}
	if cannotRun(f, args, fuel) != "" {
		return out
	}
	v := values{}
	for name, arg := range args {
		v[int64(name)] = arg
	}
	for way := []int64{0}; ; out.Visits++ {
		if out.Visits == fuel {
			out.Status = 1
			return out
		}
		for _, all := range visitRight(f, way) {
			behind := maps.Clone(v)
			for _, g := range all {
				if value := g.of(v); g.to == telling {
					out.Emits = append(out.Emits, value)
				} else {
					behind[g.to] = value
				}
			}
			v = behind
		}
		switch e := f.Blocks[way[len(way)-1]].End; {
		case e.Kind == 1:
			out.Status, out.Value, out.Visits = 2, v[e.A], out.Visits+1
			return out
		case e.Kind == 3 && v[e.A] == 0:
			way = append(way, e.Else)
		default:
			way = append(way, e.To)
		}
	}
}

func sameOut(a impl.Out, b impl.Out) bool {
	return a.Status == b.Status && a.Value == b.Value && a.Visits == b.Visits && slices.Equal(a.Emits, b.Emits)
}

func checkRun(t *testing.T, what any, f impl.Fun, args []int64, fuel int64) impl.Out {
	t.Helper()
	got, want := impl.RunOf(f, args, fuel), runRight(f, args, fuel)
	if !sameOut(got, want) {
		t.Errorf("%v: RunOf with args %v and fuel %d is %v, want %v", what, args, fuel, got, want)
	}
	return got
}

// goingOnBroken says what promise 6 does not hold of, asked of the program alone; nothing where it holds.
func goingOnBroken(f impl.Fun, args []int64, fuels []int64) string {
	outs := []impl.Out{}
	for _, fuel := range fuels {
		out := impl.RunOf(f, args, fuel)
		if out.Visits > fuel || out.Visits < 0 {
			return fmt.Sprintf("with fuel %d there are %d Visits", fuel, out.Visits)
		}
		if fuel == 0 && !sameOut(out, impl.Out{Status: impl.StFuel}) {
			return fmt.Sprintf("with no fuel it is %v", out)
		}
		for at, less := range outs {
			switch {
			case !impl.Follows(less, out):
				return fmt.Sprintf("%v with fuel %d does not follow %v with fuel %d", out, fuel, less, fuels[at])
			case less.Status == impl.StRet && !sameOut(less, out):
				return fmt.Sprintf("it ended as %v with fuel %d, but is %v with fuel %d", less, fuels[at], out, fuel)
			case less.Status == impl.StFuel && (out.Visits <= less.Visits || less.Visits != fuels[at]):
				return fmt.Sprintf("it is %v with fuel %d, and %v with fuel %d", less, fuels[at], out, fuel)
			}
		}
		outs = append(outs, out)
	}
	return ""
}

// checkRuns holds the runs of one call with little and much fuel against the chapter, and against promise 6.
func checkRuns(t *testing.T, what any, f impl.Fun, args []int64, fuels ...int64) {
	t.Helper()
	for _, fuel := range fuels {
		checkRun(t, what, f, args, fuel)
	}
	if cannotRun(f, args, 0) != "" {
		return
	}
	if broken := goingOnBroken(f, args, fuels); broken != "" {
		t.Errorf("%v, args %v: %s", what, args, broken)
	}
}

var someFuels = []int64{0, 1, 2, 3, 4, 5, 6, 9, 10, 11, 20, 49, 50, 51, impl.MaxFuel - 1, impl.MaxFuel}

// checkWanted tells of a run that ends with so many visits: of all fuels, below them and from them on.
func checkWanted(t *testing.T, what any, f impl.Fun, args []int64, want impl.Out) {
	t.Helper()
	for fuel := range int64(impl.MaxFuel + 1) {
		got := impl.RunOf(f, args, fuel)
		if fuel >= want.Visits && !sameOut(got, want) {
			t.Errorf("%v: RunOf with args %v and fuel %d is %v, want %v", what, args, fuel, got, want)
			return
		}
		if fuel < want.Visits && (got.Status != impl.StFuel || got.Value != 0 || got.Visits != fuel || !impl.Follows(got, want)) {
			t.Errorf("%v: RunOf with args %v and fuel %d is %v, but %d visits are wanted", what, args, fuel, got, want.Visits)
			return
		}
	}
	checkRuns(t, what, f, args, someFuels...)
}

func returned(value int64, visits int64, emits ...int64) impl.Out {
	return impl.Out{Status: impl.StRet, Value: value, Emits: emits, Visits: visits}
}

func stopped(visits int64, emits ...int64) impl.Out {
	return impl.Out{Status: impl.StFuel, Emits: emits, Visits: visits}
}

func emit(name int64) impl.Ins { return ins(impl.OpEmit, -1, name, 0) }

func emits(names ...int64) []impl.Ins {
	body := []impl.Ins{}
	for _, name := range names {
		body = append(body, emit(name))
	}
	return body
}

func TestConstantsOfRuns(t *testing.T) {
	got := []int64{impl.MaxFuel, impl.StBad, impl.StFuel, impl.StRet}
	if want := []int64{500, 0, 1, 2}; !slices.Equal(got, want) {
		t.Errorf("constants are %v, want %v", got, want)
	}
}

func TestRunsOfOneBlock(t *testing.T) {
	for _, c := range []struct {
		what string
		f    impl.Fun
		args []int64
		want impl.Out
	}{
		{"a param", oneBlock(1, 1, nil, nil, nil), []int64{7}, returned(7, 1)},
		{"the last of six params", oneBlock(6, 6, nil, nil, nil), []int64{1, 2, 3, 4, 5, 6}, returned(6, 1)},
		{"each of six params", oneBlock(6, 6, nil, emits(0, 1, 2, 3, 4, 5), nil), []int64{9, 8, 7, 6, 5, 4}, returned(4, 1, 9, 8, 7, 6, 5, 4)},
		{"no params", oneBlock(0, 1, nil, nil, nil), nil, returned(0, 1)},
		{"a const", oneBlock(0, 1, nil, []impl.Ins{ins(impl.OpConst, 0, 5, 0)}, nil), nil, returned(5, 1)},
		{"a copy", oneBlock(1, 2, nil, []impl.Ins{ins(impl.OpCopy, 1, 0, 0)}, nil), []int64{7}, returned(7, 1)},
		{"an add", oneBlock(2, 3, nil, []impl.Ins{ins(impl.OpAdd, 2, 0, 1)}, nil), []int64{7, 5}, returned(12, 1)},
		{"a sub", oneBlock(2, 3, nil, []impl.Ins{ins(impl.OpSub, 2, 0, 1)}, nil), []int64{7, 5}, returned(2, 1)},
		{"a sub below 0", oneBlock(2, 3, nil, []impl.Ins{ins(impl.OpSub, 2, 0, 1)}, nil), []int64{5, 7}, returned(1000001, 1)},
		{"a mul", oneBlock(2, 3, nil, []impl.Ins{ins(impl.OpMul, 2, 0, 1)}, nil), []int64{7, 5}, returned(35, 1)},
		{"a less", oneBlock(2, 3, nil, []impl.Ins{ins(impl.OpLess, 2, 0, 1)}, nil), []int64{5, 7}, returned(1, 1)},
		{"no less", oneBlock(2, 3, nil, []impl.Ins{ins(impl.OpLess, 2, 0, 1)}, nil), []int64{7, 5}, returned(0, 1)},
		{"an emit", oneBlock(1, 1, nil, emits(0), nil), []int64{7}, returned(7, 1, 7)},
		{"an emit gives no name", oneBlock(1, 1, nil, emits(0, 0, 0), nil), []int64{7}, returned(7, 1, 7, 7, 7)},
		{"emits in order", oneBlock(3, 3, nil, emits(2, 0, 1, 0), nil), []int64{7, 8, 9}, returned(9, 1, 9, 7, 8, 7)},
		{"an emit of what it was then", oneBlock(1, 2, nil, []impl.Ins{emit(1), ins(impl.OpConst, 1, 3, 0), emit(1), ins(impl.OpAdd, 1, 1, 0), emit(1)}, nil),
			[]int64{7}, returned(10, 1, 0, 3, 10)},
		{"an instruction takes what it gives", oneBlock(1, 1, nil, []impl.Ins{ins(impl.OpMul, 0, 0, 0), ins(impl.OpAdd, 0, 0, 0)}, nil), []int64{5}, returned(50, 1)},
		{"a copy of itself", oneBlock(1, 1, nil, []impl.Ins{ins(impl.OpCopy, 0, 0, 0)}, nil), []int64{5}, returned(5, 1)},
		{"never given", oneBlock(2, 4, nil, emits(0, 2, 1), nil), []int64{7, 8}, returned(0, 1, 7, 0, 8)},
		{"never given, but reckoned with", oneBlock(1, 3, nil, []impl.Ins{ins(impl.OpLess, 2, 1, 0), ins(impl.OpSub, 0, 1, 2), emit(0)}, nil),
			[]int64{7}, returned(1, 1, 1000002)},
		{"params given anew", oneBlock(2, 2, []impl.Move{move(0, 1)}, []impl.Ins{emit(0), ins(impl.OpConst, 1, 3, 0), emit(1)}, []impl.Move{move(1, 0)}),
			[]int64{7, 8}, returned(8, 1, 8, 3)},
	} {
		checkWanted(t, c.what, c.f, c.args, c.want)
	}
}

// atOncePlaces are where names may be given all at once in a block; the Phis take other ones than their own by the last of two preds.
var atOncePlaces = map[string]func(b *impl.Block, moves []impl.Move){
	"phis": func(b *impl.Block, moves []impl.Move) {
		for _, m := range moves {
			b.Phis = append(b.Phis, phi(m.To, m.To, m.From))
		}
	},
	"head": func(b *impl.Block, moves []impl.Move) { b.Head = moves },
	"tail": func(b *impl.Block, moves []impl.Move) { b.Tail = moves },
}

// rounds tells the names 0, 1, 2 in its block 1 again and again, as often as the arg of the name 3 says.
func rounds() impl.Fun {
	f := funOf(5, jump(1), branch(3, 1, 2), ret(0))
	f.Params = 4
	f.Blocks[0].Body = []impl.Ins{ins(impl.OpConst, 4, 1, 0)}
	f.Blocks[1].Body = append(emits(0, 1, 2), ins(impl.OpSub, 3, 3, 4))
	return f
}

// orders3 has the numbers 0, 1, 2 in all orders.
var orders3 = [][]int64{{0, 1, 2}, {0, 2, 1}, {1, 0, 2}, {1, 2, 0}, {2, 0, 1}, {2, 1, 0}}

// TestAllAtOnce gives three names their own values in all ways that there are, and in all orders.
func TestAllAtOnce(t *testing.T) {
	for where, put := range atOncePlaces {
		for code := range int64(27) {
			from := []int64{code % 3, code / 3 % 3, code / 9}
			for _, order := range orders3 {
				moves := []impl.Move{}
				for _, to := range order {
					moves = append(moves, move(to, from[to]))
				}
				f := rounds()
				put(&f.Blocks[1], moves)
				what := fmt.Sprint(where, moves)
				wantRounds(t, what, f, from, where)
				checkRuns(t, what, f, []int64{7, 8, 9, 4}, someFuels...)
			}
		}
	}
}

// wantRounds goes round by hand: the Phis move from the second time on, the Tail behind each telling.
func wantRounds(t *testing.T, what string, f impl.Fun, from []int64, where string) {
	t.Helper()
	const times = 4
	now, told := []int64{7, 8, 9}, []int64{}
	turn := func() { now = []int64{now[from[0]], now[from[1]], now[from[2]]} }
	for time := range times {
		if where == "head" || where == "phis" && time > 0 {
			turn()
		}
		told = append(told, now...)
		if where == "tail" {
			turn()
		}
	}
	got := impl.RunOf(f, []int64{7, 8, 9, times}, impl.MaxFuel)
	if want := returned(now[0], times+2, told...); !sameOut(got, want) {
		t.Errorf("%s: RunOf is %v, want %v", what, got, want)
	}
}

func TestToldAtOnce(t *testing.T) {
	two, ring := []impl.Move{move(0, 1), move(1, 0)}, []impl.Move{move(0, 1), move(1, 2), move(2, 0)}
	for _, c := range []struct {
		what  string
		where string
		moves []impl.Move
		want  impl.Out
	}{
		{"two change with each other", "phis", two, returned(7, 5, 7, 8, 9, 8, 7, 9, 7, 8, 9)},
		{"two change with each other", "head", two, returned(8, 5, 8, 7, 9, 7, 8, 9, 8, 7, 9)},
		{"two change with each other", "tail", two, returned(8, 5, 7, 8, 9, 8, 7, 9, 7, 8, 9)},
		{"a ring of three", "phis", ring, returned(9, 5, 7, 8, 9, 8, 9, 7, 9, 7, 8)},
		{"a ring of three", "head", ring, returned(7, 5, 8, 9, 7, 9, 7, 8, 7, 8, 9)},
		{"a ring of three", "tail", ring, returned(7, 5, 7, 8, 9, 8, 9, 7, 9, 7, 8)},
		{"one takes its own", "phis", []impl.Move{move(0, 0)}, returned(7, 5, 7, 8, 9, 7, 8, 9, 7, 8, 9)},
		{"one takes its own", "head", []impl.Move{move(2, 2)}, returned(7, 5, 7, 8, 9, 7, 8, 9, 7, 8, 9)},
		{"one takes its own", "tail", []impl.Move{move(1, 1)}, returned(7, 5, 7, 8, 9, 7, 8, 9, 7, 8, 9)},
		{"one after the other", "phis", []impl.Move{move(1, 0), move(2, 1)}, returned(7, 5, 7, 8, 9, 7, 7, 8, 7, 7, 7)},
		{"one after the other", "head", []impl.Move{move(1, 0), move(2, 1)}, returned(7, 5, 7, 7, 8, 7, 7, 7, 7, 7, 7)},
		{"one after the other, back", "tail", []impl.Move{move(0, 1), move(1, 2)}, returned(9, 5, 7, 8, 9, 8, 9, 9, 9, 9, 9)},
	} {
		f := rounds()
		atOncePlaces[c.where](&f.Blocks[1], c.moves)
		checkWanted(t, fmt.Sprint(c.where, ": ", c.what), f, []int64{7, 8, 9, 3}, c.want)
	}
}

// chain gives in its block 1 one name after the other: Phi 1, Head 2, Body 3, Tail 4; its End takes that.
func chain() impl.Fun {
	f := funOf(6, jump(1), branch(4, 2, 3), ret(4), ret(5))
	f.Params = 1
	f.Blocks[1] = impl.Block{
		Phis: []impl.Phi{phi(1, 0)}, Head: []impl.Move{move(2, 1)}, Body: []impl.Ins{ins(impl.OpCopy, 3, 2, 0), emit(3)}, Tail: []impl.Move{move(4, 3)}, End: branch(4, 2, 3),
	}
	f.Blocks[2].Body = emits(1, 2, 3, 4)
	f.Blocks[3].Body = emits(1)
	return f
}

func TestOneBehindTheOther(t *testing.T) {
	checkWanted(t, "phi, head, body, tail, end", chain(), []int64{7}, returned(7, 3, 7, 7, 7, 7, 7))
	checkWanted(t, "phi, head, body, tail, end, of 0", chain(), []int64{0}, returned(0, 3, 0, 0))
	// Each of them takes what a later one gives, so it is that of the visit before.
	late := funOf(6, jump(1), branch(5, 1, 2), ret(1))
	late.Params = 1
	late.Blocks[0].Body = []impl.Ins{ins(impl.OpConst, 5, 2, 0)}
	late.Blocks[1].Phis = []impl.Phi{phi(1, 2, 2)}
	late.Blocks[1].Head = []impl.Move{move(2, 3)}
	late.Blocks[1].Body = []impl.Ins{emit(1), emit(2), emit(3), emit(4), ins(impl.OpCopy, 3, 4, 0)}
	late.Blocks[1].Tail = []impl.Move{move(4, 0), move(5, 3)}
	late.Blocks[2].Body = emits(1, 2, 3, 4)
	checkWanted(t, "each takes what a later one gives", late, []int64{7}, returned(0, 3, 0, 0, 0, 0, 0, 0, 0, 7))
	late.Blocks[1].Tail = []impl.Move{move(4, 0), move(5, 5)}
	got := impl.RunOf(late, []int64{7}, 6)
	if want := stopped(6, 0, 0, 0, 0, 0, 0, 0, 7, 0, 7, 7, 7, 7, 7, 7, 7, 7, 7, 7, 7); !sameOut(got, want) {
		t.Errorf("each takes what a later one gives: RunOf is %v, want %v", got, want)
	}
	checkRuns(t, "each takes what a later one gives", late, []int64{7}, someFuels...)
	// All of them give one name, each anew from what the one ahead of it gave.
	same := funOf(2, jump(1), ret(0))
	same.Params = 2
	same.Blocks[1] = impl.Block{Phis: []impl.Phi{phi(0, 1)}, Head: []impl.Move{move(0, 0)}, Body: []impl.Ins{emit(0), ins(impl.OpAdd, 0, 0, 0), emit(0)}, Tail: []impl.Move{move(0, 1), move(1, 0)}, End: ret(0)}
	checkWanted(t, "all give one name", same, []int64{7, 8}, returned(8, 2, 8, 16))
	same.Blocks[1].End = ret(1)
	checkWanted(t, "the End takes what the Tail gave", same, []int64{7, 8}, returned(16, 2, 8, 16))
}

func TestEndsTakeBehindTheTail(t *testing.T) {
	for _, c := range []struct {
		a, b  int64
		value int64
	}{{0, 5, 1}, {5, 0, 2}, {5, 5, 1}, {0, 0, 2}, {0, 1, 1}, {0, lastValue, 1}, {lastValue, 0, 2}} {
		f := funOf(4, branch(0, 1, 2), ret(2), ret(3))
		f.Params = 2
		f.Blocks[0].Body = []impl.Ins{ins(impl.OpConst, 2, 1, 0), ins(impl.OpConst, 3, 2, 0)}
		f.Blocks[0].Tail = []impl.Move{move(0, 1), move(1, 0)}
		checkWanted(t, "an if behind a tail", f, []int64{c.a, c.b}, returned(c.value, 2))
		f.Blocks[0].End = branch(0, 2, 1)
		checkWanted(t, "an if behind a tail, else first", f, []int64{c.a, c.b}, returned(3-c.value, 2))
		f.Blocks[0].Tail = nil
		f.Blocks[0].Head = []impl.Move{move(0, 1), move(1, 0)}
		checkWanted(t, "an if behind a head", f, []int64{c.a, c.b}, returned(3-c.value, 2))
	}
}

// manyPreds has the block 4 behind the blocks 1, 2, 5, 6 and itself; the params 0, 1, 2 tell by which way it is come to.
func manyPreds() impl.Fun {
	f := funOf(16, branch(0, 3, 7), jump(4), jump(4), branch(1, 1, 2), branch(3, 4, 8), jump(4), jump(4), branch(1, 5, 6), ret(14))
	f.Params = 4
	f.Blocks[0].Body = []impl.Ins{
		ins(impl.OpConst, 5, 15, 0), ins(impl.OpConst, 6, 16, 0), ins(impl.OpConst, 7, 17, 0), ins(impl.OpConst, 8, 18, 0), ins(impl.OpConst, 9, 19, 0), ins(impl.OpConst, 10, 1, 0),
	}
	f.Blocks[4].Phis = []impl.Phi{phi(13, 5, 6, 7, 8, 9), phi(14, 9, 8, 7, 6, 5), phi(15, 5, 5, 15, 5, 5)}
	f.Blocks[4].Body = []impl.Ins{emit(13), emit(14), ins(impl.OpSub, 3, 3, 10)}
	return f
}

func TestPhisByEachPred(t *testing.T) {
	f := manyPreds()
	if !slices.Equal(impl.PredsOf(f, 4), []int64{1, 2, 4, 5, 6}) {
		t.Fatalf("the test is not right: the preds are %v", impl.PredsOf(f, 4))
	}
	for _, c := range []struct{ a, b, first, second int64 }{{1, 1, 15, 19}, {1, 0, 16, 18}, {0, 1, 18, 16}, {0, 0, 19, 15}} {
		checkWanted(t, "by each pred", f, []int64{c.a, c.b, 0, 1}, returned(c.second, 5, c.first, c.second))
		checkWanted(t, "by each pred, and by itself", f, []int64{c.a, c.b, 0, 3}, returned(17, 7, c.first, c.second, 17, 17, 17, 17))
	}
	// The pred that counts is the last one, not the one that was first.
	turns := funOf(4, jump(1), branch(0, 2, 3), jump(1), branch(1, 1, 4), ret(3))
	turns.Params = 2
	turns.Blocks[0].Body = []impl.Ins{ins(impl.OpConst, 2, 5, 0)}
	turns.Blocks[1].Phis = []impl.Phi{phi(3, 2, 0, 1)}
	turns.Blocks[1].Body = emits(3)
	turns.Blocks[2].Body = []impl.Ins{ins(impl.OpConst, 0, 0, 0)}
	turns.Blocks[3].Body = []impl.Ins{ins(impl.OpLess, 1, 0, 1), ins(impl.OpConst, 0, 1, 0)}
	if got, want := impl.RunOf(turns, []int64{1, 6}, 8), stopped(8, 5, 0, 1, 0); !sameOut(got, want) {
		t.Errorf("in turns: RunOf is %v, want %v", got, want)
	}
	checkWanted(t, "in turns", turns, []int64{1, 0}, returned(0, 6, 5, 0))
	checkWanted(t, "in turns", turns, []int64{0, 0}, returned(5, 4, 5))
	checkRuns(t, "in turns", turns, []int64{1, 6}, someFuels...)
}

// TestPhisOfOneVar pins a reading: of two Phis of one block that give one name, the last one is what stays.
func TestPhisOfOneVar(t *testing.T) {
	f := funOf(4, jump(1), ret(3))
	f.Params = 3
	for _, order := range orders3 {
		f.Blocks[1].Phis = []impl.Phi{phi(3, order[0]), phi(3, order[1]), phi(3, order[2])}
		checkWanted(t, "phis of one name", f, []int64{7, 8, 9}, returned(7+order[2], 2))
	}
}

func TestNamesNeverGiven(t *testing.T) {
	f := funOf(impl.MaxNames, jump(1), ret(lastName))
	f.Params = 2
	f.Blocks[1].Phis = []impl.Phi{phi(2, 90), phi(3, 0)}
	f.Blocks[1].Head = []impl.Move{move(4, 91), move(5, 1)}
	f.Blocks[1].Body = append([]impl.Ins{ins(impl.OpAdd, 6, 92, 93), ins(impl.OpLess, 7, 94, 0)}, emits(2, 3, 4, 5, 6, 7, 8, lastName)...)
	checkWanted(t, "never given", f, []int64{7, 8}, returned(0, 2, 0, 7, 0, 8, 0, 1, 0, 0))
	// A name that is given later has the value 0 until then, and keeps the one that it got.
	loop := funOf(3, jump(1), branch(1, 2, 1), ret(2))
	loop.Params = 1
	loop.Blocks[1].Body = []impl.Ins{emit(1), emit(2), ins(impl.OpCopy, 1, 2, 0), ins(impl.OpCopy, 2, 0, 0)}
	checkWanted(t, "given later", loop, []int64{7}, returned(7, 4, 0, 0, 0, 7))
}

func TestRunsOfLargeNumbers(t *testing.T) {
	f := oneBlock(2, 7, nil, []impl.Ins{
		ins(impl.OpConst, 2, lastValue, 0), emit(2), ins(impl.OpAdd, 3, 0, 1), emit(3), ins(impl.OpSub, 4, 0, 1), emit(4),
		ins(impl.OpMul, 5, 0, 1), emit(5), ins(impl.OpLess, 6, 0, 1), emit(6), emit(0), emit(1), ins(impl.OpCopy, 6, 2, 0),
	}, nil)
	for _, c := range []struct {
		a, b int64
		told []int64
	}{
		{lastValue, lastValue, []int64{1000001, 0, 1, 0}},
		{0, lastValue, []int64{1000002, 1, 0, 1}},
		{lastValue, 0, []int64{1000002, 1000002, 0, 0}},
		{0, 0, []int64{0, 0, 0, 0}},
		{0, 1, []int64{1, 1000002, 0, 1}},
		{lastValue, 1, []int64{0, 1000001, 1000002, 0}},
		{lastValue - 1, lastValue, []int64{1000000, 1000002, 2, 1}},
		{1000, 1001, []int64{2001, 1000002, 997, 1}},
	} {
		told := append(append([]int64{lastValue}, c.told...), c.a, c.b)
		checkWanted(t, "large numbers", f, []int64{c.a, c.b}, returned(lastValue, 1, told...))
	}
	// What is squared again and again does not wrap around.
	loop := funOf(1, jump(1), jump(1))
	loop.Params = 1
	loop.Blocks[1].Body = []impl.Ins{ins(impl.OpMul, 0, 0, 0), emit(0)}
	for _, arg := range []int64{2, 3, 999, 500001, lastValue - 1, lastValue} {
		checkRuns(t, "squares", loop, []int64{arg}, someFuels...)
	}
}

// counted visits its block 1 as often as the arg says, and tells how often it is yet to be.
func counted() impl.Fun {
	f := funOf(2, jump(1), branch(0, 1, 2), ret(1))
	f.Params = 1
	f.Blocks[0].Body = []impl.Ins{ins(impl.OpConst, 1, 1, 0)}
	f.Blocks[1].Body = []impl.Ins{emit(0), ins(impl.OpSub, 0, 0, 1)}
	return f
}

func TestFuelThatIsWanted(t *testing.T) {
	down := rising(0, impl.MaxFuel)
	slices.Reverse(down)
	for _, times := range []int64{1, 2, 3, 7, 100, impl.MaxFuel - 3, impl.MaxFuel - 2} {
		checkWanted(t, "counted", counted(), []int64{times}, returned(1, times+2, down[impl.MaxFuel-times:impl.MaxFuel]...))
	}
	for _, times := range []int64{0, impl.MaxFuel - 1, impl.MaxFuel, lastValue} {
		for fuel := range int64(impl.MaxFuel + 1) {
			got := impl.RunOf(counted(), []int64{times}, fuel)
			if got.Status != impl.StFuel || got.Visits != fuel || got.Value != 0 || int64(len(got.Emits)) != max(fuel-1, 0) {
				t.Errorf("counted, %d times, fuel %d: RunOf is %v", times, fuel, got)
			}
		}
		checkRuns(t, "counted", counted(), []int64{times}, someFuels...)
	}
	for what, f := range map[string]impl.Fun{
		"a loop of one":           funOf(0, jump(1), jump(1)),
		"a loop of two":           funOf(0, jump(1), jump(2), jump(1)),
		"a loop by an If":         funOf(1, jump(1), branch(0, 2, 1), ret(0)),
		"a loop by an If's other": funOf(1, branch(0, 1, 2), ret(0), jump(2)),
	} {
		for fuel := range int64(impl.MaxFuel + 1) {
			if got := impl.RunOf(f, nil, fuel); !sameOut(got, stopped(fuel)) {
				t.Errorf("%s, fuel %d: RunOf is %v", what, fuel, got)
			}
		}
		checkRuns(t, what, f, nil, someFuels...)
	}
}

// TestStrictRuns tells of functions that are Strict what they mean.
func TestStrictRuns(t *testing.T) {
	f := loopFun()
	f.Blocks[1].Body = append(f.Blocks[1].Body, emit(3), emit(4))
	for _, c := range []struct {
		args []int64
		want impl.Out
	}{
		{[]int64{3, 9}, returned(3, 4, 3, 9, 2, 3)},
		{[]int64{5, 9}, returned(3, 6, 5, 9, 4, 5, 3, 4, 2, 3)},
		{[]int64{2, 9}, returned(9, 3, 2, 9)},
		{[]int64{1, 9}, returned(9, 3, 1, 9)},
	} {
		checkWanted(t, "loop", f, c.args, c.want)
	}
	if got := impl.RunOf(f, []int64{0, 9}, 3); !sameOut(got, stopped(3, 0, 9, lastValue, 0)) {
		t.Errorf("loop: RunOf is %v", got)
	}
	for at, args := range [][]int64{{0, 0, 0, 0, 0, 0}, {5, 4, 3, 2, 1, 0}, {lastValue, lastValue, lastValue, lastValue, lastValue, lastValue}} {
		checkRuns(t, fmt.Sprint("strictest, args ", at), strictest(), args, 0, 1, 2, 5, impl.MaxBlocks-1, impl.MaxBlocks, impl.MaxBlocks+1)
	}
	if got := impl.RunOf(strictest(), []int64{0, 1, 2, 3, 4, 5}, impl.MaxBlocks); got.Status != impl.StRet || got.Visits != impl.MaxBlocks {
		t.Errorf("strictest: RunOf is %v", got)
	}
	if got := impl.RunOf(strictest(), []int64{1, 1, 2, 3, 4, 5}, impl.MaxFuel); got.Status != impl.StFuel || got.Visits != impl.MaxFuel {
		t.Errorf("strictest in a loop: RunOf is %v", got)
	}
}

func TestRunsAtTheLimits(t *testing.T) {
	for at, args := range [][]int64{{0, 0, 0, 0, 0, 0}, {5, 4, 3, 2, 1, 0}, {lastValue, 1, lastValue, 2, lastValue, 3}} {
		checkRuns(t, fmt.Sprint("fullest, args ", at), fullest(), args, 0, 1, 2, 3, impl.MaxFuel)
	}
	for blocks := int64(1); blocks <= impl.MaxBlocks; blocks++ {
		row := funOf(1, endsOf(blocks, ret(0), func(b int64) impl.End { return jump(b + 1) })...)
		row.Params = 1
		for at := range row.Blocks {
			row.Blocks[at].Body = emits(0)
		}
		checkWanted(t, fmt.Sprint(blocks, " blocks in a row"), row, []int64{7}, returned(7, blocks, slices.Repeat([]int64{7}, int(blocks))...))
	}
	back := rowBack(impl.MaxBlocks)
	for at := range back.Blocks {
		back.Blocks[at].Body = []impl.Ins{ins(impl.OpConst, 0, int64(at), 0), emit(0)}
	}
	down := rising(1, lastBlock)
	slices.Reverse(down)
	told := append(append([]int64{0}, down...), slices.Repeat([]int64{1}, impl.MaxFuel-impl.MaxBlocks)...)
	if got := impl.RunOf(back, nil, impl.MaxFuel); !sameOut(got, stopped(impl.MaxFuel, told...)) {
		t.Errorf("in a row back: RunOf is %v", got)
	}
	for where, most := range map[string]int64{"phis": impl.MaxPhis, "head": impl.MaxMoves, "tail": impl.MaxMoves} {
		for _, length := range []int64{2, most - 1, most} {
			f, turned := ringOf(length, where)
			checkWanted(t, fmt.Sprint("a ring of ", length, ", ", where), f, []int64{7}, turned)
		}
	}
	more := fullest()
	more.Blocks = append(more.Blocks, impl.Block{End: ret(0)})
	if got := impl.RunOf(more, make([]int64, 6), 5); !sameOut(got, impl.Out{}) {
		t.Errorf("a block more: RunOf is %v", got)
	}
}

// ringOf moves so many names on by one, all at once, and tells them then; they had the arg and what follows it.
func ringOf(length int64, where string) (impl.Fun, impl.Out) {
	f := funOf(length+1, jump(1), jump(2), ret(0))
	f.Params = 1
	f.Blocks[0].Body = []impl.Ins{ins(impl.OpConst, length, 1, 0)}
	moves, told := []impl.Move{}, []int64{}
	for n := range length {
		if n > 0 {
			f.Blocks[0].Body = append(f.Blocks[0].Body, ins(impl.OpAdd, n, n-1, length))
		}
		moves = append(moves, move(n, (n+1)%length))
		told = append(told, 7+(n+1)%length)
	}
	atOncePlaces[where](&f.Blocks[1], moves)
	for i, p := range f.Blocks[1].Phis {
		f.Blocks[1].Phis[i].Args = p.Args[1:]
	}
	f.Blocks[2].Body = emits(rising(0, length-1)...)
	return f, returned(8, 3, told...)
}

func TestAsManyEmitsAsCanBe(t *testing.T) {
	f := funOf(2, jump(1), branch(0, 1, 2), ret(1))
	f.Params = 2
	for at := range f.Blocks {
		f.Blocks[at].Body = slices.Repeat([]impl.Ins{emit(1)}, impl.MaxBody)
	}
	f.Blocks[1].Tail = []impl.Move{move(1, 1)}
	got := impl.RunOf(f, []int64{1, lastValue}, impl.MaxFuel)
	if want := stopped(impl.MaxFuel, slices.Repeat([]int64{lastValue}, impl.MaxBody*impl.MaxFuel)...); !sameOut(got, want) {
		t.Errorf("RunOf has Status %d, %d Visits and %d Emits", got.Status, got.Visits, len(got.Emits))
	}
	one := impl.RunOf(f, []int64{1, lastValue}, impl.MaxFuel-1)
	if len(one.Emits) != impl.MaxBody*(impl.MaxFuel-1) || !impl.Follows(one, got) || impl.Follows(got, one) {
		t.Errorf("with one fuel less there are %d Emits", len(one.Emits))
	}
	// The same, ended by a Ret in the last visit that there is fuel for: 0 counts down from what is left to visit.
	f.Params, f.Names = 3, 3
	for at := range f.Blocks {
		f.Blocks[at].Body = slices.Repeat([]impl.Ins{emit(1)}, impl.MaxBody)
	}
	f.Blocks[1].Body[impl.MaxBody-1] = ins(impl.OpSub, 0, 0, 2)
	told := impl.MaxBody*impl.MaxFuel - (impl.MaxFuel - 2)
	got = impl.RunOf(f, []int64{impl.MaxFuel - 2, lastValue, 1}, impl.MaxFuel)
	if want := returned(lastValue, impl.MaxFuel, slices.Repeat([]int64{lastValue}, told)...); !sameOut(got, want) {
		t.Errorf("RunOf has Status %d, Value %d, %d Visits and %d Emits", got.Status, got.Value, got.Visits, len(got.Emits))
	}
}

func wantBad(t *testing.T, what any, f impl.Fun, args []int64, fuel int64) {
	t.Helper()
	if got := impl.RunOf(f, args, fuel); !sameOut(got, impl.Out{}) {
		t.Errorf("%v: RunOf with args %v and fuel %d is %v, want the zero Out", what, args, fuel, got)
	}
}

func TestBadArgsAndFuel(t *testing.T) {
	for params := range int64(7) {
		f := funOf(7, jump(1), ret(0))
		f.Params = params
		f.Blocks[0].Body = emits(0, 1, 2, 3, 4, 5, 6)
		for count := range int64(9) {
			args := slices.Repeat([]int64{7}, int(count))
			if count != params {
				for _, fuel := range []int64{0, 1, 5, impl.MaxFuel} {
					wantBad(t, "a wrong count of args", f, args, fuel)
				}
			} else if got := impl.RunOf(f, args, 5); got.Status != impl.StRet {
				t.Errorf("%d args: RunOf is %v", count, got)
			}
		}
		checkArgsOf(t, f)
	}
	wantBad(t, "many args", oneBlock(6, 6, nil, nil, nil), make([]int64, 10000), 5)
	for _, fuel := range append([]int64{-2, -1, impl.MaxFuel + 1, impl.MaxFuel + 2}, farNumbers...) {
		wantBad(t, "a wrong fuel", counted(), []int64{3}, fuel)
		wantBad(t, "a wrong fuel for a loop", funOf(0, jump(1), jump(1)), nil, fuel)
	}
	if got := impl.RunOf(counted(), []int64{3}, impl.MaxFuel); !sameOut(got, returned(1, 5, 3, 2, 1)) {
		t.Errorf("the most fuel: RunOf is %v", got)
	}
	if got := impl.RunOf(counted(), []int64{3}, 0); !sameOut(got, stopped(0)) {
		t.Errorf("no fuel: RunOf is %v", got)
	}
}

// checkArgsOf gives each param a value that is none, and the smallest and the largest one.
func checkArgsOf(t *testing.T, f impl.Fun) {
	t.Helper()
	for at := range f.Params {
		args := slices.Repeat([]int64{7}, int(f.Params))
		for _, wrong := range append([]int64{-1, impl.Prime, impl.Prime + 1}, farNumbers...) {
			args[at] = wrong
			wantBad(t, "a wrong arg", f, args, 0)
			wantBad(t, "a wrong arg", f, args, 5)
		}
		for _, right := range []int64{0, 1, lastValue} {
			args[at] = right
			if got := impl.RunOf(f, args, 5); got.Status != impl.StRet || len(got.Emits) != 7 || got.Emits[at] != right {
				t.Errorf("args %v: RunOf is %v", args, got)
			}
		}
	}
}

func TestRunsOfWrongFunctions(t *testing.T) {
	for _, c := range wrongChanges() {
		f := fullFun()
		checkRuns(t, "full", f, []int64{3, 4}, someFuels...)
		c.apply(&f)
		for _, fuel := range []int64{-1, 0, 1, 5, impl.MaxFuel, impl.MaxFuel + 1} {
			for _, args := range [][]int64{nil, {3}, {3, 4}, {-1, 4}, make([]int64, 7)} {
				wantBad(t, c.what, f, args, fuel)
			}
		}
	}
	for _, f := range []impl.Fun{{}, {Names: 3}, {Blocks: make([]impl.Block, 1)}, {Params: 1, Names: 1, Blocks: make([]impl.Block, 40)}} {
		wantBad(t, "a zero function", f, nil, 5)
		wantBad(t, "a zero function", f, []int64{1}, 5)
	}
	// What is wrong is in a block that no run would come to.
	f := funOf(1, ret(0), ret(0))
	f.Blocks[1].Body = []impl.Ins{{}}
	wantBad(t, "wrong in a lost block", f, nil, 5)
	f.Blocks[1].Body = emits(0)
	checkWanted(t, "a lost block", f, nil, returned(0, 1))
}

// followsRight tells by the place of each number; what is asked of b is asked where a has that Status alone.
func followsRight(a impl.Out, b impl.Out) bool {
	alike := 0
	for alike < len(a.Emits) && alike < len(b.Emits) && a.Emits[alike] == b.Emits[alike] {
		alike++
	}
	holds := map[int64]bool{
		1: alike == len(a.Emits),
		2: b.Status == 2 && a.Value == b.Value && alike == len(a.Emits) && alike == len(b.Emits),
	}
	held, isAsked := holds[a.Status]
	return a.Status != 0 && b.Status != 0 && (held || !isAsked)
}

func TestFollowsTold(t *testing.T) {
	checkFollows(t, []followed{
		{"the same", returned(3, 5, 1, 2), returned(3, 5, 1, 2), true},
		{"other visits", returned(3, 5, 1, 2), returned(3, 90, 1, 2), true},
		{"another value", returned(3, 5, 1, 2), returned(4, 5, 1, 2), false},
		{"no emits", returned(3, 5), returned(3, 5), true},
		{"no emits, another value", returned(3, 5), returned(0, 5), false},
		{"no emits and some", returned(3, 5), returned(3, 5, 1), false},
		{"some emits and none", returned(3, 5, 1), returned(3, 5), false},
		{"an emit more", returned(3, 5, 1, 2), returned(3, 5, 1, 2, 3), false},
		{"an emit less", returned(3, 5, 1, 2), returned(3, 5, 1), false},
		{"another last emit", returned(3, 5, 1, 2), returned(3, 5, 1, 3), false},
		{"another first emit", returned(3, 5, 1, 2), returned(3, 5, 2, 2), false},
		{"emits the other way round", returned(3, 5, 1, 2), returned(3, 5, 2, 1), false},
		{"returned, then stopped", returned(3, 5, 1, 2), stopped(5, 1, 2), false},
		{"returned 0, then stopped", returned(0, 5, 1, 2), stopped(5, 1, 2), false},
		{"stopped, the same", stopped(5, 1, 2), stopped(5, 1, 2), true},
		{"stopped, no emits", stopped(5), stopped(5), true},
		{"stopped, no emits, then some", stopped(5), stopped(5, 1, 2), true},
		{"stopped, some, then none", stopped(5, 1), stopped(5), false},
		{"stopped, more", stopped(5, 1, 2), stopped(3, 1, 2, 3), true},
		{"stopped, less", stopped(5, 1, 2), stopped(9, 1), false},
		{"stopped, another last one", stopped(5, 1, 2), stopped(9, 1, 3, 2), false},
		{"stopped, another first one", stopped(5, 1, 2), stopped(9, 2, 2, 2), false},
		{"stopped, in the middle", stopped(5, 1, 2), stopped(9, 0, 1, 2), false},
		{"stopped, then returned, the same", stopped(5, 1, 2), returned(3, 9, 1, 2), true},
		{"stopped, then returned, more", stopped(5, 1, 2), returned(3, 9, 1, 2, 3), true},
		{"stopped, then returned, less", stopped(5, 1, 2), returned(3, 9, 1), false},
		{"stopped, then returned, none", stopped(5, 1), returned(3, 9), false},
		{"stopped, then returned, no emits", stopped(5), returned(3, 9), true},
		{"stopped, then returned, another one", stopped(5, 1), returned(3, 9, 2), false},
		{"stopped with a value", impl.Out{Status: impl.StFuel, Value: 4}, returned(3, 9), true},
		{"bad and returned", impl.Out{}, returned(0, 0), false},
		{"bad and stopped", impl.Out{}, stopped(0), false},
		{"bad both", impl.Out{}, impl.Out{}, false},
		{"returned and bad", returned(0, 0), impl.Out{}, false},
		{"stopped and bad", stopped(0), impl.Out{}, false},
		{"bad with emits", impl.Out{Emits: []int64{1}}, returned(0, 1, 1), false},
		{"stopped, then bad with emits", stopped(1, 1), impl.Out{Emits: []int64{1}}, false},
	})
}

// noName is an Out with a Status that chapter 6 does not name.
func noName(status int64, emits ...int64) impl.Out {
	return impl.Out{Status: status, Value: 1, Emits: emits, Visits: 4}
}

// TestFollowsOfNoName has first what was once answered false, as if each Status of no name were StBad.
func TestFollowsOfNoName(t *testing.T) {
	checkFollows(t, []followed{
		{"stopped, then -1", impl.Out{Status: 1, Value: 1}, impl.Out{Status: -1, Value: 1, Emits: []int64{1}}, true},
		{"stopped, then the largest one", impl.Out{Status: 1, Emits: []int64{5}, Visits: 2}, impl.Out{Status: 9223372036854775807, Value: 10, Emits: []int64{5}}, true},
		{"-1, then returned", impl.Out{Status: -1}, impl.Out{Status: 2, Value: 1, Emits: []int64{0}, Visits: 7}, true},
		{"3, then -2", impl.Out{Status: 3, Value: 1, Visits: 4}, impl.Out{Status: -2, Value: 1, Emits: []int64{1}, Visits: 4}, true},
		{"3, then stopped", noName(3, 0), stopped(5, 0), true},
		{"3, then itself", noName(3, 0, 1), noName(3, 0, 1), true},
		{"3, then returned with another value", noName(3, 5), returned(9, 1, 5), true},
		{"3, then another emit", noName(3, 5), returned(1, 1, 6), true},
		{"3, then an emit less", noName(3, 5, 6), stopped(1, 5), true},
		{"3, then no emits", noName(3, 5), noName(4), true},
		{"stopped, then 3 with more", stopped(5, 1), noName(3, 1, 2), true},
		{"stopped, then 3 with another emit", stopped(5, 1), noName(3, 2, 1), false},
		{"stopped, then 3 with an emit less", stopped(5, 1, 2), noName(3, 1), false},
		{"returned, then 3 with the same", returned(1, 4, 5), noName(3, 5), false},
		{"returned, then -1 with the same", returned(1, 4), noName(-1), false},
		{"bad, then 3", impl.Out{}, noName(3), false},
		{"bad, then -1", impl.Out{Value: 1, Emits: []int64{5}}, noName(-1, 5), false},
		{"3, then bad", noName(3), impl.Out{}, false},
		{"-1, then bad", noName(-1, 5), impl.Out{Value: 1, Emits: []int64{5}}, false},
	})
}

type followed struct {
	what string
	a, b impl.Out
	want bool
}

func checkFollows(t *testing.T, told []followed) {
	t.Helper()
	for _, c := range told {
		if got := impl.Follows(c.a, c.b); got != c.want {
			t.Errorf("%s: Follows %v, %v is %v", c.what, c.a, c.b, got)
		}
		if followsRight(c.a, c.b) != c.want {
			t.Errorf("%s: the test is not right", c.what)
		}
	}
}

// TestFollowsByStatus takes each two of all statuses, those of no name, too.
func TestFollowsByStatus(t *testing.T) {
	statuses := append([]int64{-2, -1, 0, 1, 2, 3, 4, 257, 258}, farNumbers...)
	lists := [][]int64{nil, {}, {1}, {2}, {1, 2}, {1, 3}, {1, 2, 3}}
	for _, first := range statuses {
		for _, second := range statuses {
			for _, one := range lists {
				for _, other := range lists {
					for _, value := range []int64{0, 5} {
						a := impl.Out{Status: first, Value: 5, Emits: one, Visits: 3}
						b := impl.Out{Status: second, Value: value, Emits: other, Visits: 4}
						if got := impl.Follows(a, b); got != followsRight(a, b) {
							t.Errorf("Follows %v, %v is %v", a, b, got)
						}
					}
				}
			}
		}
	}
}

func TestFollowsOfLongEmits(t *testing.T) {
	long := rising(0, impl.MaxBody*impl.MaxFuel-1)
	for _, status := range []int64{impl.StFuel, impl.StRet} {
		a := impl.Out{Status: status, Emits: long}
		if !impl.Follows(a, returned(0, 0, slices.Clone(long)...)) {
			t.Errorf("status %d: the same does not follow", status)
		}
		for _, at := range []int{0, len(long) / 2, len(long) - 1} {
			other := slices.Clone(long)
			other[at]++
			if impl.Follows(a, returned(0, 0, other...)) {
				t.Errorf("status %d: another emit at %d follows", status, at)
			}
			if impl.Follows(a, returned(0, 0, long[:at]...)) {
				t.Errorf("status %d: only %d emits follow", status, at)
			}
			if short := (impl.Out{Status: status, Emits: long[:at]}); impl.Follows(short, returned(0, 0, long...)) != (status == impl.StFuel) {
				t.Errorf("status %d: of %d emits Follows is %v", status, at, status != impl.StFuel)
			}
		}
	}
}

func anyArgs(r *rand.Rand, params int64) []int64 {
	args := []int64{}
	for range params {
		if r.Intn(2) == 0 {
			args = append(args, r.Int63n(3))
		} else {
			args = append(args, r.Int63n(impl.Prime))
		}
	}
	return args
}

// pace counts the runs that stopped, that returned at once, and that returned behind a loop.
type pace struct{ stopped, short, looped int }

func (p *pace) add(f impl.Fun, out impl.Out) {
	switch {
	case out.Status == impl.StFuel:
		p.stopped++
	case out.Visits > int64(len(f.Blocks)):
		p.looped++
	default:
		p.short++
	}
}

func (p *pace) want(t *testing.T, stopped int, short int, looped int) {
	t.Helper()
	if p.stopped < stopped || p.short < short || p.looped < looped {
		t.Errorf("of all runs there are %+v", *p)
	}
}

func TestManyRuns(t *testing.T) {
	r := rand.New(rand.NewSource(20))
	all := pace{}
	for n := range 800 {
		f := anyFun(r)
		what := fmt.Sprint("function ", n)
		for range 2 {
			args := anyArgs(r, f.Params)
			checkRuns(t, what, f, args, 0, 1, 2, 3, 4, 5, 6, 12, 13, 40)
			all.add(f, impl.RunOf(f, args, impl.MaxFuel))
			if n%20 == 0 {
				checkRun(t, what, f, args, impl.MaxFuel)
			}
		}
	}
	all.want(t, 200, 200, 1)
}

func TestManyStrictRuns(t *testing.T) {
	r := rand.New(rand.NewSource(21))
	all := pace{}
	for n := range 1000 {
		f := anyStrict(r, 1+r.Intn(9), n%2 == 0)
		what := fmt.Sprint("strict function ", n)
		if !impl.Strict(f) {
			t.Fatalf("%s: the test is not right", what)
		}
		args := anyArgs(r, f.Params)
		checkRuns(t, what, f, args, 0, 1, 2, 3, 4, 5, 8, 9, 30)
		all.add(f, impl.RunOf(f, args, impl.MaxFuel))
	}
	all.want(t, 100, 100, 0)
}

// anyCounted leaves its loops for the last block when a name that counts down in each block is 0, so they end, but late.
func anyCounted(r *rand.Rand) impl.Fun {
	f := anyFun(r)
	f.Blocks = append(f.Blocks, impl.Block{})
	names, last := f.Names, int64(len(f.Blocks))
	f.Names += 2
	count, one := names, names+1
	for at := range f.Blocks {
		b := &f.Blocks[at]
		b.Phis, b.End = nil, branch(count, 1+r.Int63n(last-1), last)
		b.Body = append(b.Body, ins(impl.OpSub, count, count, one))
	}
	f.Blocks[0].Body = append(f.Blocks[0].Body, ins(impl.OpConst, one, 1, 0), ins(impl.OpConst, count, r.Int63n(30), 0))
	f.Blocks = append(f.Blocks, impl.Block{End: ret(r.Int63n(names))})
	addPhis(r, &f, names)
	return f
}

func TestManyLoopsThatEnd(t *testing.T) {
	r := rand.New(rand.NewSource(22))
	all := pace{}
	for n := range 400 {
		f := anyCounted(r)
		what := fmt.Sprint("counted function ", n)
		if !impl.FunOk(f) {
			t.Fatalf("%s: the test is not right: %s", what, funWrong(f))
		}
		args := anyArgs(r, f.Params)
		checkRuns(t, what, f, args, 0, 1, 2, 3, 5, 8, 13, 21, 34, 55)
		all.add(f, impl.RunOf(f, args, impl.MaxFuel))
	}
	all.want(t, 0, 20, 100)
}

// TestAllSmallRuns goes by all edges that there can be; each block tells of itself and of the way.
func TestAllSmallRuns(t *testing.T) {
	for blocks := int64(1); blocks <= 4; blocks++ {
		eachSmallGraph(blocks, func(f impl.Fun) {
			f.Params, f.Names = 1, 9
			for at := range f.Blocks {
				b := &f.Blocks[at]
				b.Phis, b.Body = nil, []impl.Ins{ins(impl.OpConst, 1+int64(at), int64(at), 0), emit(1 + int64(at)), emit(5)}
				if at > 0 {
					b.Phis = []impl.Phi{phi(5)}
					for _, pred := range predsRight(f, int64(at)) {
						b.Phis[0].Args = append(b.Phis[0].Args, 1+pred)
					}
				}
				b.Tail = []impl.Move{move(0, 6), move(6, 0)}
			}
			what := fmt.Sprint(impl.EdgesOf(f))
			for arg := range int64(2) {
				checkRuns(t, what, f, []int64{arg}, 0, 1, 2, 3, 4, 7)
			}
		})
	}
}

func TestManyRunsChanged(t *testing.T) {
	r := rand.New(rand.NewSource(23))
	changed := append([]int64{-1, 0, 1, 2, 3, 12, 39, 40, 149, 150}, farNumbers...)
	statuses := map[int64]int{}
	for n := range 3000 {
		f := anyFun(r)
		args, fuel := anyArgs(r, f.Params), r.Int63n(20)
		numbers := numbersOf(&f)
		for at := range args {
			numbers = append(numbers, &args[at])
		}
		*append(numbers, &fuel)[r.Intn(len(numbers)+1)] = changed[r.Intn(len(changed))]
		wantNoPanic(t, f, func() { statuses[checkRun(t, fmt.Sprint("changed function ", n), f, args, fuel).Status]++ })
	}
	for status := range int64(3) {
		if statuses[status] < 100 {
			t.Errorf("of all statuses there are %v", statuses)
		}
	}
}

func TestRunsDoNotPanic(t *testing.T) {
	r := rand.New(rand.NewSource(24))
	number := func() int64 {
		if r.Intn(3) == 0 {
			return farNumbers[r.Intn(len(farNumbers))]
		}
		return r.Int63n(10) - 2
	}
	wildOut := func() impl.Out {
		return impl.Out{Status: number(), Value: number(), Emits: wildList(r, number), Visits: number()}
	}
	for n := range 10000 {
		f := wildFun(r)
		if n%2 == 0 {
			f.Params, f.Names = 0, r.Int63n(impl.MaxNames+1)
		}
		args, fuel := wildList(r, number), number()
		wantNoPanic(t, fmt.Sprintf("wild function %d: %v, args %v, fuel %d", n, f, args, fuel), func() {
			checkRun(t, f, f, args, fuel)
			checkRun(t, f, f, nil, 3)
		})
		a, b := wildOut(), wildOut()
		wantNoPanic(t, fmt.Sprintf("Follows %v, %v", a, b), func() {
			if impl.Follows(a, b) != followsRight(a, b) {
				t.Errorf("Follows %v, %v is %v", a, b, impl.Follows(a, b))
			}
		})
	}
	many := funOf(1, slices.Repeat([]impl.End{jump(1)}, 10000)...)
	wantNoPanic(t, "many blocks", func() { wantBad(t, "many blocks", many, nil, 5) })
}

func TestEmitsAreNewMemory(t *testing.T) {
	for what, c := range map[string]struct {
		f    impl.Fun
		args []int64
		fuel int64
	}{
		"emits of args":    {oneBlock(3, 3, nil, emits(0, 1, 2), nil), []int64{7, 8, 9}, 5},
		"emits of a loop":  {counted(), []int64{9}, 50},
		"stopped":          {counted(), []int64{9}, 5},
		"no emits":         {loopFun(), []int64{5, 9}, 50},
		"no fuel":          {counted(), []int64{9}, 0},
		"bad":              {counted(), nil, 5},
		"zero":             {impl.Fun{}, nil, 0},
		"emits of a ring":  {chain(), []int64{7}, 5},
		"emits of fullest": {fullest(), make([]int64, 6), 5},
	} {
		wantNewMemory(t, what+": Emits", func() []int64 { return impl.RunOf(c.f, c.args, c.fuel).Emits })
	}
}

func TestRunsStay(t *testing.T) {
	r := rand.New(rand.NewSource(25))
	funs := []impl.Fun{{}, fullFun(), fullest(), loopFun(), strictest(), counted(), chain(), manyPreds(), rounds(), funOf(0, jump(1), jump(1)), funOf(1, jump(0))}
	for range 60 {
		funs = append(funs, anyFun(r), anyStrict(r, 5, true), anyCounted(r), wildFun(r))
	}
	for at, f := range funs {
		what := fmt.Sprintf("function %d: RunOf", at)
		for _, args := range [][]int64{anyArgs(r, min(max(f.Params, 0), 9)), {}, {1, 2, 3}, {-1, impl.Prime}} {
			given := roomy(args, -5)
			before := roomOf(given)
			wantFunStays(t, what, f, func(f impl.Fun) {
				for _, fuel := range []int64{-1, 0, 1, 2, 30} {
					overwrite(impl.RunOf(f, given, fuel).Emits, -7)
				}
			})
			if !reflect.DeepEqual(before, roomOf(given)) {
				t.Errorf("%s: the args were written into", what)
			}
		}
	}
}

func TestOutsStay(t *testing.T) {
	outs := []impl.Out{{}, {Emits: []int64{1, 2}}, stopped(3), stopped(3, 1), stopped(3, 1, 2), returned(4, 3), returned(4, 3, 1, 2), returned(5, 3, 1, 2, 3), {Status: 3, Emits: []int64{1}}}
	for _, a := range outs {
		for _, b := range outs {
			one, other := roomy(a.Emits, -5), roomy(b.Emits, -6)
			first, second := roomOf(one), roomOf(other)
			a.Emits, b.Emits = one, other
			if got := impl.Follows(a, b); got != followsRight(a, b) {
				t.Errorf("Follows %v, %v is %v", a, b, got)
			}
			if !reflect.DeepEqual(first, roomOf(one)) || !reflect.DeepEqual(second, roomOf(other)) {
				t.Errorf("Follows %v, %v: the Emits were written into", a, b)
			}
		}
	}
}
