package tests

import (
	"fmt"
	"math/rand"
	"slices"
	"testing"

	"loop.example/g00823/impl"
)

func place(block int64, time int64) impl.Place { return impl.Place{Block: block, Time: time} }

// step is what happens at one time of a block.
type step struct {
	gives []int64
	takes []int64
}

// stepsRight has the steps of each block, so a time is the number of a step.
func stepsRight(f impl.Fun) [][]step {
	steps := make([][]step, len(f.Blocks))
	for at, b := range f.Blocks {
		first := step{}
		if at == 0 {
			first.gives = rising(0, f.Params-1)
		}
		for _, p := range b.Phis {
			first.gives = append(first.gives, p.Var)
		}
		steps[at] = []step{first, movesStep(b.Head)}
		for _, i := range b.Body {
			steps[at] = append(steps[at], insStep(i))
		}
		end := step{}
		if b.End.Kind != impl.EdJump {
			end.takes = []int64{b.End.A}
		}
		steps[at] = append(steps[at], movesStep(b.Tail), end)
	}
	for at, b := range f.Blocks {
		for i, pred := range predsRight(f, int64(at)) {
			end := &steps[pred][len(steps[pred])-1]
			for _, p := range b.Phis {
				end.takes = append(end.takes, p.Args[i])
			}
		}
	}
	return steps
}

func movesStep(moves []impl.Move) step {
	s := step{}
	for _, m := range moves {
		s.gives = append(s.gives, m.To)
		s.takes = append(s.takes, m.From)
	}
	return s
}

func insStep(i impl.Ins) step {
	if i.Op == impl.OpEmit {
		return step{takes: usesRight(i)}
	}
	return step{gives: []int64{i.Var}, takes: usesRight(i)}
}

func defsRight(steps [][]step, name int64) []impl.Place {
	defs := []impl.Place{}
	for block := range steps {
		for time, s := range steps[block] {
			for _, given := range s.gives {
				if given == name {
					defs = append(defs, place(int64(block), int64(time)))
				}
			}
		}
	}
	return defs
}

func takesRight(steps [][]step, name int64) []impl.Place {
	takes := []impl.Place{}
	for block := range steps {
		for time, s := range steps[block] {
			if slices.Contains(s.takes, name) {
				takes = append(takes, place(int64(block), int64(time)))
			}
		}
	}
	return takes
}

// takenUngiven goes all ways from the block 0 on, and looks whether one comes to a taking by no giving.
func takenUngiven(f impl.Fun, steps [][]step, name int64) bool {
	type state struct {
		block int64
		given bool
	}
	seen := map[state]bool{}
	for todo := []state{{0, false}}; len(todo) > 0; {
		s := todo[0]
		todo = todo[1:]
		if seen[s] {
			continue
		}
		seen[s] = true
		given := s.given
		for _, one := range steps[s.block] {
			if !given && slices.Contains(one.takes, name) {
				return true
			}
			given = given || slices.Contains(one.gives, name)
		}
		for _, to := range succsRight(f.Blocks[s.block].End) {
			todo = append(todo, state{to, given})
		}
	}
	return false
}

// notStrict says why a function is not; nothing where it is.
func notStrict(f impl.Fun) string {
	if funWrong(f) != "" {
		return "not right"
	}
	if slices.Contains(reachedRight(f), false) {
		return "lost"
	}
	steps := stepsRight(f)
	for name := range f.Names {
		if len(defsRight(steps, name)) != 1 {
			return "not once"
		}
	}
	for name := range f.Names {
		if takenUngiven(f, steps, name) {
			return "loose"
		}
	}
	return ""
}

func codeRight(f impl.Fun) int64 {
	why := notStrict(f)
	moves, large, args := false, f.Names > 40 || len(f.Blocks) > 12, 0
	for _, b := range f.Blocks {
		moves = moves || len(b.Head)+len(b.Tail) > 0
		large = large || len(b.Body) > 12
		for _, p := range b.Phis {
			args += len(p.Args)
		}
	}
	switch {
	case why == "not right":
		return 1
	case moves:
		return 2
	case why != "":
		return map[string]int64{"lost": 3, "not once": 4, "loose": 5}[why]
	case large || args > 50:
		return 6
	}
	return 0
}

// checkStrict holds the four calls against what chapter 5 says of the function, and against promise 5.
func checkStrict(t *testing.T, what any, f impl.Fun) {
	t.Helper()
	if funWrong(f) != "" {
		wantNotStrict(t, what, f)
		return
	}
	steps := stepsRight(f)
	for name := int64(-1); name <= f.Names; name++ {
		if got, want := impl.DefsOf(f, name), defsRight(steps, name); !slices.Equal(got, want) {
			t.Errorf("%v: DefsOf %d is %v, want %v", what, name, got, want)
		}
		if got, want := impl.TakesOf(f, name), takesRight(steps, name); !slices.Equal(got, want) {
			t.Errorf("%v: TakesOf %d is %v, want %v", what, name, got, want)
		}
	}
	checkCode(t, what, f)
	if broken := givingBroken(f); broken != "" {
		t.Errorf("%v: %s", what, broken)
	}
}

func checkCode(t *testing.T, what any, f impl.Fun) {
	t.Helper()
	if got, why := impl.Strict(f), notStrict(f); got != (why == "") {
		t.Errorf("%v: Strict is %v; not strict as: %q", what, got, why)
	}
	if got, want := impl.CodeOf(f), codeRight(f); got != want {
		t.Errorf("%v: CodeOf is %d, want %d", what, got, want)
	}
}

// wantNotStrict is what is answered of a function that is not right.
func wantNotStrict(t *testing.T, what any, f impl.Fun) {
	t.Helper()
	for _, name := range append(rising(-2, min(f.Names, impl.MaxNames)+1), f.Names, f.Names-1, 0, 1, 7) {
		wantNoPlaces(t, what, f, name)
	}
	if impl.Strict(f) || impl.CodeOf(f) != impl.FnBad {
		t.Errorf("%v: Strict is %v, CodeOf is %d, want false and 1", what, impl.Strict(f), impl.CodeOf(f))
	}
}

func wantNoPlaces(t *testing.T, what any, f impl.Fun, name int64) {
	t.Helper()
	if got := impl.DefsOf(f, name); len(got) != 0 {
		t.Errorf("%v: DefsOf %d is %v, want nothing", what, name, got)
	}
	if got := impl.TakesOf(f, name); len(got) != 0 {
		t.Errorf("%v: TakesOf %d is %v, want nothing", what, name, got)
	}
}

// givingBroken says what promise 5 does not hold of, asked of the program alone; nothing where it holds.
func givingBroken(f impl.Fun) string {
	code := impl.CodeOf(f)
	if !impl.Strict(f) {
		if code == impl.FnOk || code == impl.FnLarge {
			return fmt.Sprint("it is not Strict, but CodeOf is ", code)
		}
		return ""
	}
	if code != impl.FnOk && code != impl.FnMoves && code != impl.FnLarge {
		return fmt.Sprint("it is Strict, but CodeOf is ", code)
	}
	for name := range f.Names {
		defs := impl.DefsOf(f, name)
		if len(defs) != 1 {
			return fmt.Sprintf("it is Strict, but DefsOf %d is %v", name, defs)
		}
		for _, take := range impl.TakesOf(f, name) {
			same := take.Block == defs[0].Block
			if same && take.Time <= defs[0].Time || !same && !impl.Dominates(f, defs[0].Block, take.Block) {
				return fmt.Sprintf("it is Strict, but %d is given at %v and taken at %v", name, defs[0], take)
			}
		}
	}
	return ""
}

func TestConstantsOfStrictness(t *testing.T) {
	got := []int64{impl.MaxGiven, impl.MaxArgs, impl.FnOk, impl.FnBad, impl.FnMoves, impl.FnLost, impl.FnTwice, impl.FnLoose, impl.FnLarge, impl.FnWay}
	want := []int64{40, 50, 0, 1, 2, 3, 4, 5, 6, 7}
	if !slices.Equal(got, want) {
		t.Errorf("constants are %v, want %v", got, want)
	}
}

// told is a function, and of each of its names where it is given and where it is taken.
type told struct {
	what  string
	f     impl.Fun
	defs  [][]impl.Place
	takes [][]impl.Place
}

func checkTold(t *testing.T, all []told) {
	t.Helper()
	for _, c := range all {
		if !impl.FunOk(c.f) || len(c.defs) != int(c.f.Names) || len(c.takes) != int(c.f.Names) {
			t.Fatalf("%s: the test is not right", c.what)
		}
		for name := range c.f.Names {
			if got := impl.DefsOf(c.f, name); !slices.Equal(got, c.defs[name]) {
				t.Errorf("%s: DefsOf %d is %v, want %v", c.what, name, got, c.defs[name])
			}
			if got := impl.TakesOf(c.f, name); !slices.Equal(got, c.takes[name]) {
				t.Errorf("%s: TakesOf %d is %v, want %v", c.what, name, got, c.takes[name])
			}
		}
		checkStrict(t, c.what, c.f)
	}
}

// oneBlock returns the last name.
func oneBlock(params int64, names int64, head []impl.Move, body []impl.Ins, tail []impl.Move) impl.Fun {
	return impl.Fun{Params: params, Names: names, Blocks: []impl.Block{{Head: head, Body: body, Tail: tail, End: ret(names - 1)}}}
}

func TestTimesWithinABlock(t *testing.T) {
	type lists = [][]impl.Place
	first, head := []impl.Place{place(0, 0)}, []impl.Place{place(0, 1)}
	second, third, fourth, fifth := []impl.Place{place(0, 2)}, []impl.Place{place(0, 3)}, []impl.Place{place(0, 4)}, []impl.Place{place(0, 5)}
	copied := []impl.Ins{ins(impl.OpCopy, 1, 0, 0)}
	checkTold(t, []told{
		{"nothing but a ret", oneBlock(1, 1, nil, nil, nil), lists{first}, lists{third}},
		{"params", oneBlock(3, 3, nil, nil, nil), lists{first, first, first}, lists{nil, nil, third}},
		{"six params", oneBlock(6, 6, nil, nil, nil), lists{first, first, first, first, first, first}, lists{nil, nil, nil, nil, nil, third}},
		{"a head", oneBlock(1, 2, []impl.Move{move(1, 0)}, nil, nil), lists{first, head}, lists{head, third}},
		{"a body", oneBlock(1, 2, nil, copied, nil), lists{first, second}, lists{second, fourth}},
		{"a tail", oneBlock(1, 2, nil, nil, []impl.Move{move(1, 0)}), lists{first, second}, lists{second, third}},
		{"a head and a body", oneBlock(1, 3, []impl.Move{move(2, 0)}, copied, nil), lists{first, second, head}, lists{{place(0, 1), place(0, 2)}, nil, fourth}},
		{"a body and a tail", oneBlock(1, 3, nil, copied, []impl.Move{move(2, 1)}), lists{first, second, third}, lists{second, third, fourth}},
		{"a head and a tail", oneBlock(1, 3, []impl.Move{move(1, 0)}, nil, []impl.Move{move(2, 1)}), lists{first, head, second}, lists{head, second, third}},
		{"all of them", oneBlock(1, 4, []impl.Move{move(2, 0)}, []impl.Ins{ins(impl.OpCopy, 1, 2, 0), ins(impl.OpEmit, -1, 1, 0)}, []impl.Move{move(3, 1)}),
			lists{first, second, head, fourth}, lists{head, {place(0, 3), place(0, 4)}, second, fifth}},
		{"an instruction takes a name twice", oneBlock(1, 2, nil, []impl.Ins{ins(impl.OpAdd, 1, 0, 0)}, nil), lists{first, second}, lists{second, fourth}},
		{"each instruction takes it", oneBlock(1, 2, nil, []impl.Ins{ins(impl.OpEmit, -1, 0, 0), ins(impl.OpEmit, -1, 0, 0), ins(impl.OpMul, 1, 0, 0)}, nil),
			lists{first, fourth}, lists{{place(0, 2), place(0, 3), place(0, 4)}, {place(0, 6)}}},
		{"both names of an instruction", oneBlock(2, 3, nil, []impl.Ins{ins(impl.OpSub, 2, 1, 0)}, nil), lists{first, first, second}, lists{second, second, fourth}},
		{"an instruction takes and gives", oneBlock(1, 1, nil, []impl.Ins{ins(impl.OpLess, 0, 0, 0)}, nil), lists{{place(0, 0), place(0, 2)}}, lists{{place(0, 2), place(0, 4)}}},
		{"a const takes nothing", oneBlock(0, 2, nil, []impl.Ins{ins(impl.OpConst, 1, 0, 0)}, nil), lists{nil, second}, lists{nil, fourth}},
		{"the moves of a head take one name", oneBlock(1, 3, []impl.Move{move(1, 0), move(2, 0)}, nil, nil), lists{first, head, head}, lists{head, nil, third}},
		{"the moves of a tail take one name", oneBlock(1, 3, nil, nil, []impl.Move{move(2, 0), move(1, 0)}), lists{first, second, second}, lists{second, nil, third}},
		{"a move of a head takes and gives", oneBlock(0, 1, []impl.Move{move(0, 0)}, nil, nil), lists{head}, lists{{place(0, 1), place(0, 3)}}},
		{"a move of a tail takes and gives", oneBlock(1, 1, nil, nil, []impl.Move{move(0, 0)}), lists{{place(0, 0), place(0, 2)}}, lists{{place(0, 2), place(0, 3)}}},
		{"a ring in a head", oneBlock(2, 2, []impl.Move{move(0, 1), move(1, 0)}, nil, nil), lists{{place(0, 0), place(0, 1)}, {place(0, 0), place(0, 1)}}, lists{head, {place(0, 1), place(0, 3)}}},
		{"head and tail do alike", oneBlock(1, 2, []impl.Move{move(1, 0)}, nil, []impl.Move{move(1, 0)}), lists{first, {place(0, 1), place(0, 2)}}, lists{{place(0, 1), place(0, 2)}, third}},
		{"a param given once more", oneBlock(2, 2, nil, []impl.Ins{ins(impl.OpConst, 0, 7, 0), ins(impl.OpConst, 0, 7, 0)}, nil),
			lists{{place(0, 0), place(0, 2), place(0, 3)}, first}, lists{nil, fifth}},
		{"never given, but taken", oneBlock(0, 2, nil, []impl.Ins{ins(impl.OpEmit, -1, 0, 0)}, nil), lists{nil, nil}, lists{second, fourth}},
	})
}

// loopFun is a loop in block 1 of which the name 6 tells whether it goes on.
func loopFun() impl.Fun {
	f := funOf(8, jump(1), branch(6, 1, 2), ret(7))
	f.Params = 2
	f.Blocks[0].Body = []impl.Ins{ins(impl.OpConst, 2, 1, 0)}
	f.Blocks[1].Phis = []impl.Phi{phi(3, 0, 5), phi(4, 1, 3)}
	f.Blocks[1].Body = []impl.Ins{ins(impl.OpSub, 5, 3, 2), ins(impl.OpLess, 6, 2, 5)}
	f.Blocks[2].Body = []impl.Ins{ins(impl.OpCopy, 7, 4, 0)}
	return f
}

func TestTimesOfPhis(t *testing.T) {
	type lists = [][]impl.Place
	first := []impl.Place{place(0, 0)}
	twoWays := funOf(5, branch(0, 1, 2), jump(3), jump(3), ret(4))
	twoWays.Params = 3
	twoWays.Blocks[2].Body = []impl.Ins{ins(impl.OpCopy, 3, 2, 0)}
	twoWays.Blocks[3].Phis = []impl.Phi{phi(4, 1, 3)}
	own := funOf(3, jump(1), branch(1, 1, 2), ret(1))
	own.Params = 1
	own.Blocks[1].Phis = []impl.Phi{phi(1, 0, 1), phi(2, 0, 1)}
	both := funOf(4, branch(0, 1, 2), ret(2), ret(3))
	both.Params = 2
	both.Blocks[1].Phis = []impl.Phi{phi(2, 1), phi(3, 0)}
	both.Blocks[2].Phis = []impl.Phi{phi(3, 1), phi(3, 1)}
	both.Blocks[0].Tail = []impl.Move{move(1, 0)}
	lost := funOf(2, ret(0), ret(1), jump(1), branch(0, 1, 2))
	lost.Params = 1
	lost.Blocks[1].Phis = []impl.Phi{phi(1, 0, 1)}
	lost.Blocks[2].Phis = []impl.Phi{phi(1, 1)}
	checkTold(t, []told{
		{"a loop", loopFun(),
			lists{first, first, {place(0, 2)}, {place(1, 0)}, {place(1, 0)}, {place(1, 2)}, {place(1, 3)}, {place(2, 2)}},
			lists{{place(0, 4)}, {place(0, 4)}, {place(1, 2), place(1, 3)}, {place(1, 2), place(1, 5)}, {place(2, 2)}, {place(1, 3), place(1, 5)}, {place(1, 5)}, {place(2, 4)}}},
		{"ways that meet", twoWays,
			lists{first, first, first, {place(2, 2)}, {place(3, 0)}},
			lists{{place(0, 3)}, {place(1, 3)}, {place(2, 2)}, {place(2, 4)}, {place(3, 3)}}},
		{"phis of a block that is its own pred take what its End takes", own,
			lists{first, {place(1, 0)}, {place(1, 0)}},
			lists{{place(0, 3)}, {place(1, 3), place(2, 3)}, nil}},
		{"phis of both succs", both,
			lists{first, {place(0, 0), place(0, 2)}, {place(1, 0)}, {place(1, 0), place(2, 0), place(2, 0)}},
			lists{{place(0, 2), place(0, 3)}, {place(0, 3)}, {place(1, 3)}, {place(2, 3)}}},
		{"phis of lost blocks", lost,
			lists{first, {place(1, 0), place(2, 0)}},
			lists{{place(0, 3), place(2, 3), place(3, 3)}, {place(1, 3), place(3, 3)}}},
	})
}

func TestPlacesOfFullBlocks(t *testing.T) {
	f := fullest()
	checkStrict(t, "fullest", f)
	for _, c := range []struct {
		name  int64
		block int64
		defs  []int64
		takes []int64
	}{
		{0, 0, []int64{0, 1}, append(rising(2, 82), 83)},
		{0, 7, []int64{1}, append(rising(2, 82), 83)},
		{0, lastBlock, []int64{0, 1}, rising(2, 82)},
		{3, lastBlock, []int64{0, 1}, []int64{82}},
		{39, 7, []int64{1}, []int64{82}},
		{40, 7, nil, nil},
		{109, 7, nil, nil},
		{110, 7, []int64{82}, nil},
		{lastName, 7, rising(2, 82), rising(1, 81)},
		{lastName, lastBlock, rising(2, 82), append(rising(1, 81), 83)},
	} {
		if got := timesIn(impl.DefsOf(f, c.name), c.block); !slices.Equal(got, c.defs) {
			t.Errorf("fullest: in block %d %d is given at %v, want %v", c.block, c.name, got, c.defs)
		}
		if got := timesIn(impl.TakesOf(f, c.name), c.block); !slices.Equal(got, c.takes) {
			t.Errorf("fullest: in block %d %d is taken at %v, want %v", c.block, c.name, got, c.takes)
		}
	}
}

func timesIn(places []impl.Place, block int64) []int64 {
	times := []int64{}
	for _, p := range places {
		if p.Block == block {
			times = append(times, p.Time)
		}
	}
	return times
}

func TestPlacesOfAnyNumbers(t *testing.T) {
	wrong := fullFun()
	wrong.Names = 9
	for what, f := range map[string]impl.Fun{"full": fullFun(), "fullest": fullest(), "loop": loopFun(), "no names": funOf(0, jump(1), jump(1)), "wrong": wrong, "zero": {}} {
		for _, name := range append([]int64{-2, -1, f.Names, f.Names + 1, impl.MaxNames, impl.MaxNames + 1}, farNumbers...) {
			wantNoPanic(t, fmt.Sprint(what, name), func() { wantNoPlaces(t, what, f, name) })
		}
	}
	for name := range int64(10) {
		wantNoPlaces(t, "wrong", wrong, name)
	}
}

// strictChange makes of loopFun what is not Strict, or still is, and has that code.
type strictChange struct {
	what  string
	code  int64
	apply func(f *impl.Fun)
}

func checkStrictChanges(t *testing.T, changes []strictChange) {
	t.Helper()
	for _, c := range changes {
		f := loopFun()
		c.apply(&f)
		strict := c.code == impl.FnOk || c.code == impl.FnLarge
		if got := impl.Strict(f); got != strict {
			t.Errorf("%s: Strict is %v", c.what, got)
		}
		if got := impl.CodeOf(f); got != c.code {
			t.Errorf("%s: CodeOf is %d, want %d", c.what, got, c.code)
		}
		checkStrict(t, c.what, f)
	}
}

func TestNotStrictByBlocksAndGivings(t *testing.T) {
	checkStrictChanges(t, []strictChange{
		{"no change", impl.FnOk, func(f *impl.Fun) {}},
		{"a name too few", impl.FnBad, func(f *impl.Fun) { f.Names-- }},
		{"a lost block", impl.FnLost, func(f *impl.Fun) { f.Blocks = append(f.Blocks, impl.Block{End: ret(0)}) }},
		{"a lost block that leads on", impl.FnLost, func(f *impl.Fun) { f.Blocks = append(f.Blocks, impl.Block{End: jump(2)}) }},
		{"a lost block that takes nothing", impl.FnLost, func(f *impl.Fun) { f.Blocks = append(f.Blocks, impl.Block{End: jump(3)}) }},
		{"lost blocks that give a name", impl.FnLost, func(f *impl.Fun) {
			f.Names = 9
			f.Blocks = append(f.Blocks, impl.Block{Body: []impl.Ins{ins(impl.OpConst, 8, 1, 0)}, End: jump(4)}, impl.Block{End: ret(8)})
		}},
		{"a name that is not given", impl.FnTwice, func(f *impl.Fun) { f.Names = 9 }},
		{"a name that is not given, but taken", impl.FnTwice, func(f *impl.Fun) {
			f.Names = 9
			f.Blocks[2].End = ret(8)
		}},
		{"one param less", impl.FnTwice, func(f *impl.Fun) { f.Params = 1 }},
		{"one param more", impl.FnTwice, func(f *impl.Fun) { f.Params = 3 }},
		{"a param given by an instruction", impl.FnTwice, func(f *impl.Fun) { f.Blocks[0].Body = append(f.Blocks[0].Body, ins(impl.OpConst, 0, 1, 0)) }},
		{"given twice in a body", impl.FnTwice, func(f *impl.Fun) { f.Blocks[0].Body = append(f.Blocks[0].Body, ins(impl.OpConst, 2, 1, 0)) }},
		{"given twice in two blocks", impl.FnTwice, func(f *impl.Fun) { f.Blocks[2].Body = append(f.Blocks[2].Body, ins(impl.OpConst, 5, 1, 0)) }},
		{"given by a phi and an instruction", impl.FnTwice, func(f *impl.Fun) { f.Blocks[1].Body = append(f.Blocks[1].Body, ins(impl.OpConst, 3, 1, 0)) }},
		{"given by two phis at one place", impl.FnTwice, func(f *impl.Fun) { f.Blocks[1].Phis = append(f.Blocks[1].Phis, phi(4, 1, 3)) }},
		{"given by the param and a phi", impl.FnTwice, func(f *impl.Fun) { f.Blocks[1].Phis[1].Var = 1 }},
		{"the last name given twice", impl.FnTwice, func(f *impl.Fun) { f.Blocks[2].Body = append(f.Blocks[2].Body, ins(impl.OpConst, 7, 1, 0)) }},
	})
}

func TestNotStrictByTakings(t *testing.T) {
	checkStrictChanges(t, []strictChange{
		{"taken ahead of its giving", impl.FnLoose, func(f *impl.Fun) { f.Blocks[1].Body[0].B = 6 }},
		{"taken one time ahead of it", impl.FnLoose, func(f *impl.Fun) { slices.Reverse(f.Blocks[1].Body) }},
		{"taken by the instruction that gives it", impl.FnLoose, func(f *impl.Fun) { f.Blocks[1].Body[0].B = 5 }},
		{"a copy of itself", impl.FnLoose, func(f *impl.Fun) { f.Blocks[2].Body[0].A = 7 }},
		{"taken right behind its giving", impl.FnOk, func(f *impl.Fun) { f.Blocks[1].Body[1] = ins(impl.OpLess, 6, 5, 5) }},
		{"taken in a block ahead", impl.FnLoose, func(f *impl.Fun) { f.Blocks[0].Body = append(f.Blocks[0].Body, ins(impl.OpEmit, -1, 5, 0)) }},
		{"taken in a block ahead, that one in a loop", impl.FnLoose, func(f *impl.Fun) { f.Blocks[1].Body = append(f.Blocks[1].Body, ins(impl.OpEmit, -1, 7, 0)) }},
		{"taken by an If in a block ahead", impl.FnLoose, func(f *impl.Fun) { f.Blocks[1].End.A = 7 }},
		{"taken by a phi by the pred ahead of the giving", impl.FnLoose, func(f *impl.Fun) { f.Blocks[1].Phis[0].Args[0] = 5 }},
		{"a phi takes itself by the pred ahead", impl.FnLoose, func(f *impl.Fun) { f.Blocks[1].Phis[0].Args[0] = 3 }},
		{"a phi takes itself by its own block", impl.FnOk, func(f *impl.Fun) { f.Blocks[1].Phis[0].Args[1] = 3 }},
		{"a phi takes by its own block what a later one gives", impl.FnOk, func(f *impl.Fun) { f.Blocks[1].Phis[0].Args[1] = 4 }},
		{"a phi takes what is behind the loop", impl.FnLoose, func(f *impl.Fun) { f.Blocks[1].Phis[0].Args[1] = 7 }},
		{"args the other way round", impl.FnLoose, func(f *impl.Fun) { slices.Reverse(f.Blocks[1].Phis[0].Args) }},
		{"an instruction takes a phi's name", impl.FnOk, func(f *impl.Fun) { f.Blocks[1].Body[0].B = 4 }},
		{"the ret takes a param", impl.FnOk, func(f *impl.Fun) { f.Blocks[2].End.A = 0 }},
	})
}

func TestTakingsByMoves(t *testing.T) {
	for _, c := range []struct {
		what   string
		strict bool
		names  int64
		head   []impl.Move
		tail   []impl.Move
	}{
		{"a head takes a param", true, 3, []impl.Move{move(2, 0)}, nil},
		{"a head takes what the same head gives", false, 4, []impl.Move{move(2, 0), move(3, 2)}, nil},
		{"and gives it behind", false, 4, []impl.Move{move(3, 2), move(2, 0)}, nil},
		{"a head gives what it takes", false, 3, []impl.Move{move(2, 2)}, nil},
		{"a head takes what the body gives", false, 3, []impl.Move{move(2, 1)}, nil},
		{"a tail takes what the body gives", true, 3, nil, []impl.Move{move(2, 1)}},
		{"a tail takes what the head gives", true, 4, []impl.Move{move(2, 0)}, []impl.Move{move(3, 2)}},
		{"a head takes what the tail gives", false, 4, []impl.Move{move(3, 2)}, []impl.Move{move(2, 0)}},
		{"a tail takes what the same tail gives", false, 4, nil, []impl.Move{move(2, 0), move(3, 2)}},
		{"a tail gives what it takes", false, 3, nil, []impl.Move{move(2, 2)}},
		{"a head and a tail give one name", false, 3, []impl.Move{move(2, 0)}, []impl.Move{move(2, 0)}},
		{"a head gives a param", false, 2, []impl.Move{move(0, 0)}, nil},
		{"a ring in a tail", false, 2, nil, []impl.Move{move(0, 1), move(1, 0)}},
	} {
		f := oneBlock(1, c.names, c.head, []impl.Ins{ins(impl.OpConst, 1, 5, 0)}, c.tail)
		if impl.Strict(f) != c.strict || impl.CodeOf(f) != impl.FnMoves {
			t.Errorf("%s: Strict is %v, CodeOf is %d", c.what, impl.Strict(f), impl.CodeOf(f))
		}
		checkStrict(t, c.what, f)
	}
}

func TestTakingsWhereWaysMeet(t *testing.T) {
	// 1 is given in the block 1 alone, 2 in the block 2, 3 where both ways meet.
	meeting := func(args ...int64) impl.Fun {
		f := funOf(4, branch(0, 1, 2), jump(3), jump(3), ret(3))
		f.Params = 1
		f.Blocks[1].Body = []impl.Ins{ins(impl.OpConst, 1, 5, 0)}
		f.Blocks[2].Body = []impl.Ins{ins(impl.OpConst, 2, 6, 0)}
		f.Blocks[3].Phis = []impl.Phi{phi(3, args...)}
		return f
	}
	for first := range int64(4) {
		for second := range int64(4) {
			f := meeting(first, second)
			if want := first <= 1 && (second == 0 || second == 2); impl.Strict(f) != want {
				t.Errorf("Args %d and %d: Strict is %v", first, second, impl.Strict(f))
			}
			checkStrict(t, fmt.Sprint("args ", first, second), f)
		}
	}
	for name := range int64(4) {
		f := meeting(1, 2)
		f.Blocks[3].End = ret(name)
		if want := name == 0 || name == 3; impl.Strict(f) != want {
			t.Errorf("ret %d: Strict is %v", name, impl.Strict(f))
		}
		checkStrict(t, fmt.Sprint("ret ", name), f)
	}
	// Each block dominates itself, but what it gives is not ahead of what it takes by that.
	loop := funOf(2, jump(1), branch(0, 1, 2), ret(1))
	loop.Params = 1
	loop.Blocks[1].Body = []impl.Ins{ins(impl.OpEmit, -1, 1, 0), ins(impl.OpConst, 1, 5, 0)}
	if impl.Strict(loop) || impl.CodeOf(loop) != impl.FnLoose {
		t.Errorf("taken ahead of its giving, in a loop: Strict is %v", impl.Strict(loop))
	}
	slices.Reverse(loop.Blocks[1].Body)
	if !impl.Strict(loop) || impl.CodeOf(loop) != impl.FnOk {
		t.Errorf("taken behind its giving, in a loop: Strict is %v", impl.Strict(loop))
	}
}

func TestStrictWithoutNames(t *testing.T) {
	for what, f := range map[string]impl.Fun{"a loop": funOf(0, jump(1), jump(1)), "two blocks in a loop": funOf(0, jump(1), jump(2), jump(1))} {
		if !impl.Strict(f) || impl.CodeOf(f) != impl.FnOk {
			t.Errorf("%s: Strict is %v, CodeOf is %d", what, impl.Strict(f), impl.CodeOf(f))
		}
		f.Names = 1
		if impl.Strict(f) || impl.CodeOf(f) != impl.FnTwice || len(impl.TakesOf(f, 0)) != 0 {
			t.Errorf("%s and a name: Strict is %v, CodeOf is %d, TakesOf 0 is %v", what, impl.Strict(f), impl.CodeOf(f), impl.TakesOf(f, 0))
		}
		f.Params = 1
		if !impl.Strict(f) || impl.CodeOf(f) != impl.FnOk || !slices.Equal(impl.DefsOf(f, 0), []impl.Place{{}}) {
			t.Errorf("%s and a param: Strict is %v, CodeOf is %d, DefsOf 0 is %v", what, impl.Strict(f), impl.CodeOf(f), impl.DefsOf(f, 0))
		}
	}
}

// freshIns gives a name that was not there.
func freshIns(f *impl.Fun) impl.Ins {
	f.Names++
	return ins(impl.OpConst, f.Names-1, 5, 0)
}

// spoilers has for each code but FnOk some changes that each bring that one alone, to be put together at will.
func spoilers() map[int64][]func(f *impl.Fun) {
	return map[int64][]func(f *impl.Fun){
		impl.FnBad: {
			func(f *impl.Fun) { f.Params = -1 },
			func(f *impl.Fun) { f.Blocks[1].Body[0].B = impl.MaxNames },
			func(f *impl.Fun) { f.Blocks[0].Phis = []impl.Phi{phi(0)} },
		},
		impl.FnMoves: {
			func(f *impl.Fun) { f.Names++; f.Blocks[0].Head = []impl.Move{move(f.Names-1, 0)} },
			func(f *impl.Fun) { f.Names++; f.Blocks[2].Tail = []impl.Move{move(f.Names-1, 0)} },
		},
		impl.FnLost: {
			func(f *impl.Fun) { f.Blocks = append(f.Blocks, impl.Block{End: jump(2)}) },
			func(f *impl.Fun) {
				b := impl.Block{Body: []impl.Ins{freshIns(f)}, End: jump(int64(len(f.Blocks)))}
				f.Blocks = append(f.Blocks, b)
			},
		},
		impl.FnTwice: {
			func(f *impl.Fun) { f.Names++ },
			func(f *impl.Fun) { f.Blocks[2].Body = append(f.Blocks[2].Body, ins(impl.OpConst, 7, 1, 0)) },
			func(f *impl.Fun) { f.Blocks[1].Phis = append(f.Blocks[1].Phis, f.Blocks[1].Phis[0]) },
		},
		impl.FnLoose: {
			func(f *impl.Fun) { f.Blocks[1].Body[0].A = 6 },
			func(f *impl.Fun) { f.Blocks[0].Body = append(f.Blocks[0].Body, ins(impl.OpEmit, -1, 5, 0)) },
			func(f *impl.Fun) { f.Blocks[1].Phis[0].Args[0] = 4 },
		},
		impl.FnLarge: {
			func(f *impl.Fun) {
				for f.Names <= impl.MaxGiven {
					b := &f.Blocks[f.Names%3]
					b.Body = append(b.Body, freshIns(f))
				}
			},
			func(f *impl.Fun) {
				f.Blocks[2].Body = slices.Concat(slices.Repeat([]impl.Ins{ins(impl.OpEmit, -1, 0, 0)}, 12), f.Blocks[2].Body)
			},
			func(f *impl.Fun) {
				f.Blocks[2].End = jump(int64(len(f.Blocks)))
				for range 10 {
					f.Blocks = append(f.Blocks, impl.Block{End: jump(int64(len(f.Blocks)) + 1)})
				}
				f.Blocks[len(f.Blocks)-1].End = ret(0)
			},
		},
	}
}

func TestCodesAloneAndTogether(t *testing.T) {
	codes := []int64{impl.FnBad, impl.FnMoves, impl.FnLost, impl.FnTwice, impl.FnLoose, impl.FnLarge}
	spoil := spoilers()
	for _, one := range codes {
		for first, change := range spoil[one] {
			f := loopFun()
			change(&f)
			if got := impl.CodeOf(f); got != one {
				t.Errorf("code %d, change %d: CodeOf is %d", one, first, got)
			}
			checkStrict(t, fmt.Sprint("code ", one, ", change ", first), f)
			for _, other := range codes {
				for second, another := range spoil[other] {
					if other == one {
						continue
					}
					f := loopFun()
					another(&f)
					change(&f)
					if got := impl.CodeOf(f); got != min(one, other) {
						t.Errorf("codes %d and %d, changes %d and %d: CodeOf is %d", one, other, first, second, got)
					}
					checkCode(t, fmt.Sprint("codes ", one, other), f)
				}
			}
		}
	}
}

func TestManyCodesTogether(t *testing.T) {
	spoil := spoilers()
	for set := range 1 << 6 {
		for which := range 3 {
			f, want := loopFun(), int64(impl.FnOk)
			for code := int64(impl.FnLarge); code >= impl.FnBad; code-- {
				if set&(1<<(code-1)) != 0 {
					want = code
					spoil[code][which%len(spoil[code])](&f)
				}
			}
			if got := impl.CodeOf(f); got != want {
				t.Errorf("codes by bits %b, changes %d: CodeOf is %d, want %d", set, which, got, want)
			}
			checkCode(t, fmt.Sprintf("codes by bits %b", set), f)
		}
	}
}

// sized is a strict row of blocks, each but the first and the last one in a loop of its own, of just those sizes.
func sized(names int64, blocks int64, args int64, body int) impl.Fun {
	f := funOf(1, endsOf(blocks, ret(0), func(b int64) impl.End {
		if b == 0 {
			return jump(1)
		}
		return branch(0, b, b+1)
	})...)
	f.Params = 1
	for at := int64(1); args > 1; args -= 2 {
		if len(f.Blocks[at].Phis) == impl.MaxPhis {
			at++
		}
		f.Blocks[at].Phis = append(f.Blocks[at].Phis, phi(f.Names, 0, f.Names))
		f.Names++
	}
	if args == 1 {
		f.Blocks[blocks-1].Phis = []impl.Phi{phi(f.Names, 0)}
		f.Names++
	}
	for at := 1; f.Names < names; at++ {
		at = (at-1)%(len(f.Blocks)-1) + 1
		f.Blocks[at].Body = append(f.Blocks[at].Body, freshIns(&f))
	}
	f.Blocks[0].Body = slices.Repeat([]impl.Ins{ins(impl.OpEmit, -1, 0, 0)}, body)
	return f
}

func TestLimitsOfLarge(t *testing.T) {
	for _, c := range []struct {
		names, blocks, args int64
		body                int
		code                int64
	}{
		{40, 12, 50, 12, impl.FnOk},
		{40, 5, 4, 3, impl.FnOk},
		{9, 12, 4, 3, impl.FnOk},
		{30, 9, 50, 3, impl.FnOk},
		{9, 3, 4, 12, impl.FnOk},
		{41, 12, 50, 12, impl.FnLarge},
		{41, 5, 4, 3, impl.FnLarge},
		{40, 13, 50, 12, impl.FnLarge},
		{9, 13, 4, 3, impl.FnLarge},
		{40, 12, 51, 12, impl.FnLarge},
		{30, 9, 51, 3, impl.FnLarge},
		{40, 12, 50, 13, impl.FnLarge},
		{9, 3, 4, 13, impl.FnLarge},
		{39, 11, 49, 11, impl.FnOk},
		{150, 40, 96, 80, impl.FnLarge},
		{150, 40, 96, 12, impl.FnLarge},
		{9, 40, 4, 3, impl.FnLarge},
		{40, 12, 50, 80, impl.FnLarge},
		{40, 12, 64, 12, impl.FnLarge},
	} {
		f := sized(c.names, c.blocks, c.args, c.body)
		if f.Names != c.names || int64(len(f.Blocks)) != c.blocks || argsOf(f) != c.args || len(f.Blocks[0].Body) != c.body {
			t.Fatalf("%v: the test is not right", c)
		}
		if !impl.Strict(f) || impl.CodeOf(f) != c.code {
			t.Errorf("names, blocks, args, body %v: Strict is %v, CodeOf is %d", c, impl.Strict(f), impl.CodeOf(f))
		}
		checkStrict(t, c, f)
	}
	for at := range 12 {
		f := sized(9, 12, 4, 0)
		for want, code := range map[int]int64{12: impl.FnOk, 13: impl.FnLarge} {
			f.Blocks[at].Body = slices.Concat(slices.Repeat([]impl.Ins{ins(impl.OpEmit, -1, 0, 0)}, want-len(f.Blocks[at].Body)), f.Blocks[at].Body)
			if got := impl.CodeOf(f); got != code {
				t.Errorf("%d instructions in the body of block %d: CodeOf is %d, want %d", want, at, got, code)
			}
			f = sized(9, 12, 4, 0)
		}
	}
}

func argsOf(f impl.Fun) int64 {
	args := 0
	for _, b := range f.Blocks {
		for _, p := range b.Phis {
			args += len(p.Args)
		}
	}
	return int64(args)
}

// strictest is a strict function of MaxBlocks blocks and MaxNames names, with as much of each thing as there may be in its block 1.
func strictest() impl.Fun {
	f := sized(10, impl.MaxBlocks, 8, 0)
	f.Params, f.Names = 6, 6
	b := &f.Blocks[1]
	give := func() int64 { f.Names++; return f.Names - 1 }
	for i := range b.Phis {
		name := give()
		b.Phis[i] = phi(name, int64(i), name)
	}
	for i := range int64(impl.MaxMoves) {
		b.Head = append(b.Head, move(give(), 6+i%4))
	}
	b.Body = []impl.Ins{}
	for i := range int64(impl.MaxBody) {
		if i < 60 {
			b.Body = append(b.Body, ins(impl.OpAdd, give(), 9+i, 10+i))
		} else {
			b.Body = append(b.Body, ins(impl.OpEmit, -1, 30+i, 0))
		}
	}
	for i := range int64(impl.MaxMoves) {
		b.Tail = append(b.Tail, move(give(), 70+i))
	}
	for i := range b.Phis {
		b.Phis[i].Args[1] = lastName - int64(i)
	}
	for at := 2; at < len(f.Blocks); at++ {
		f.Blocks[at].Body = []impl.Ins{ins(impl.OpEmit, -1, lastName, 0)}
	}
	return f
}

func TestStrictAtTheLimits(t *testing.T) {
	f := strictest()
	if !impl.Strict(f) || impl.CodeOf(f) != impl.FnMoves || f.Names != impl.MaxNames {
		t.Fatalf("%d names: Strict is %v, CodeOf is %d", f.Names, impl.Strict(f), impl.CodeOf(f))
	}
	checkStrict(t, "strictest", f)
	takes := []impl.Place{place(1, 83)}
	for b := int64(2); b < impl.MaxBlocks; b++ {
		takes = append(takes, place(b, 2))
	}
	if got := impl.TakesOf(f, lastName); !slices.Equal(got, takes) || !slices.Equal(impl.DefsOf(f, lastName), []impl.Place{place(1, 82)}) {
		t.Errorf("strictest: TakesOf %d is %v, DefsOf %v", lastName, got, impl.DefsOf(f, lastName))
	}
	for what, change := range map[string]func(f *impl.Fun){
		"a block":        func(f *impl.Fun) { f.Blocks = append(f.Blocks, impl.Block{End: jump(2)}) },
		"a name":         func(f *impl.Fun) { f.Names++ },
		"a param":        func(f *impl.Fun) { f.Params++ },
		"a phi":          func(f *impl.Fun) { f.Blocks[1].Phis = append(f.Blocks[1].Phis, phi(0, 0, 0)) },
		"an arg":         func(f *impl.Fun) { f.Blocks[1].Phis[3].Args = []int64{0, 0, 0} },
		"an instruction": func(f *impl.Fun) { f.Blocks[1].Body = append(f.Blocks[1].Body, ins(impl.OpEmit, -1, 0, 0)) },
		"a head's move":  func(f *impl.Fun) { f.Blocks[1].Head = append(f.Blocks[1].Head, move(0, 0)) },
		"a tail's move":  func(f *impl.Fun) { f.Blocks[1].Tail = append(f.Blocks[1].Tail, move(0, 0)) },
	} {
		f := strictest()
		change(&f)
		wantNotStrict(t, what+" more", f)
	}
	// Of as many blocks as can be, in a row: given in the first one, taken in the last one, and the other way round.
	for _, c := range []struct {
		given, taken int
		strict       bool
	}{{0, lastBlock, true}, {lastBlock, 0, false}, {lastBlock - 1, lastBlock, true}, {lastBlock, lastBlock - 1, false}} {
		row := funOf(2, endsOf(impl.MaxBlocks, ret(0), func(b int64) impl.End { return jump(b + 1) })...)
		row.Params = 1
		row.Blocks[c.given].Body = []impl.Ins{ins(impl.OpConst, 1, 5, 0)}
		row.Blocks[c.taken].Body = []impl.Ins{ins(impl.OpEmit, -1, 1, 0)}
		if got := impl.Strict(row); got != c.strict {
			t.Errorf("in a row, given in block %d, taken in block %d: Strict is %v", c.given, c.taken, got)
		}
		checkStrict(t, "in a row", row)
	}
}

func TestStrictOfWrongFunctions(t *testing.T) {
	for _, c := range wrongChanges() {
		f := fullFun()
		checkStrict(t, "full", f)
		c.apply(&f)
		wantNotStrict(t, c.what, f)
	}
}

// TestAllSmallStrict gives a name in one block and takes it in another one, with all edges that there can be.
func TestAllSmallStrict(t *testing.T) {
	for blocks := int64(1); blocks <= 4; blocks++ {
		eachSmallGraph(blocks, func(f impl.Fun) {
			f.Params, f.Names = 1, 2
			if slices.Contains(reachedRight(f), false) {
				return
			}
			for given := range f.Blocks {
				for taken := range f.Blocks {
					f.Blocks[given].Body = []impl.Ins{ins(impl.OpConst, 1, 5, 0)}
					f.Blocks[taken].Body = append(f.Blocks[taken].Body, ins(impl.OpEmit, -1, 1, 0))
					if got := impl.Strict(f); got == takenUngiven(f, stepsRight(f), 1) {
						t.Errorf("%v, given in %d, taken in %d: Strict is %v", impl.EdgesOf(f), given, taken, got)
					}
					f.Blocks[given].Body, f.Blocks[taken].Body = nil, nil
				}
			}
		})
	}
}

// TestAllSmallPhis takes the name by a Phi from one pred, with all edges that there can be.
func TestAllSmallPhis(t *testing.T) {
	for blocks := int64(2); blocks <= 3; blocks++ {
		eachSmallGraph(blocks, func(f impl.Fun) {
			f.Params, f.Names = 1, 3
			for _, e := range edgesRight(f) {
				preds := predsRight(f, e[1])
				args := make([]int64, len(preds))
				args[slices.Index(preds, e[0])] = 1
				f.Blocks[e[1]].Phis = []impl.Phi{phi(2, args...)}
				for given := range f.Blocks {
					f.Blocks[given].Body = []impl.Ins{ins(impl.OpConst, 1, 5, 0)}
					checkStrict(t, fmt.Sprint(impl.EdgesOf(f), " given in ", given, ", taken by the way ", e), f)
					f.Blocks[given].Body = nil
				}
				f.Blocks[e[1]].Phis = nil
			}
		})
	}
}

// anyReached has ends by which each block is come to; what they take is still to be told.
func anyReached(r *rand.Rand, blocks int) []impl.End {
	succs := make([][]int64, blocks)
	for b := 1; b < blocks; b++ {
		from := b - 1
		for other := r.Intn(b); r.Intn(2) == 0; other = r.Intn(b) {
			if len(succs[other]) < 2 {
				from = other
			}
		}
		succs[from] = append(succs[from], int64(b))
	}
	for from := range succs {
		to := int64(r.Intn(blocks))
		if to > 0 && len(succs[from]) < 2 && !slices.Contains(succs[from], to) {
			succs[from] = append(succs[from], to)
		}
	}
	numbers := r.Perm(blocks - min(blocks, 1))
	ends := make([]impl.End, blocks)
	number := func(b int64) int64 {
		if b == 0 {
			return 0
		}
		return int64(numbers[b-1]) + 1
	}
	for from, tos := range succs {
		r.Shuffle(len(tos), func(i int, j int) { tos[i], tos[j] = tos[j], tos[i] })
		switch at := number(int64(from)); len(tos) {
		case 0:
			ends[at] = ret(0)
		case 1:
			ends[at] = jump(number(tos[0]))
		default:
			ends[at] = branch(0, number(tos[0]), number(tos[1]))
		}
	}
	return ends
}

// strictMaker keeps which names each block gives, while a strict function is made.
type strictMaker struct {
	r     *rand.Rand
	f     impl.Fun
	given [][]int64
	doms  [][]int64
}

// anyStrict is a strict function, with moves or without.
func anyStrict(r *rand.Rand, blocks int, moves bool) impl.Fun {
	m := strictMaker{r: r, f: funOf(r.Int63n(7), anyReached(r, blocks)...), given: make([][]int64, blocks)}
	m.f.Params = m.f.Names
	m.doms = domsRight(m.f)
	m.given[0] = rising(0, m.f.Params-1)
	// What dominates a block has fewer that dominate it.
	order := rising(0, int64(blocks)-1)
	slices.SortStableFunc(order, func(a int64, b int64) int { return len(m.doms[a]) - len(m.doms[b]) })
	for _, b := range order {
		m.fill(b, moves)
	}
	for at := range m.f.Blocks {
		for i := range m.f.Blocks[at].Phis {
			for _, pred := range predsRight(m.f, int64(at)) {
				m.f.Blocks[at].Phis[i].Args = append(m.f.Blocks[at].Phis[i].Args, m.known(pred))
			}
		}
	}
	shuffleNames(r, &m.f)
	return m.f
}

// known is one of the names that are given at the end of the block, as far as it is made.
func (m *strictMaker) known(b int64) int64 {
	names := []int64{}
	for _, a := range m.doms[b] {
		names = append(names, m.given[a]...)
	}
	return names[m.r.Intn(len(names))]
}

func (m *strictMaker) fresh() int64 {
	m.f.Names++
	return m.f.Names - 1
}

func (m *strictMaker) fill(b int64, moves bool) {
	block := &m.f.Blocks[b]
	if b > 0 {
		for range m.r.Intn(impl.MaxPhis) {
			name := m.fresh()
			block.Phis = append(block.Phis, phi(name))
			m.given[b] = append(m.given[b], name)
		}
	}
	if moves && (b > 0 || m.f.Params > 0) {
		block.Head = m.moves(b)
	}
	for i := range m.r.Intn(6) + 1 {
		block.Body = append(block.Body, m.ins(b, b == 0 && i == 0))
	}
	if moves {
		block.Tail = m.moves(b)
	}
	if block.End.Kind != impl.EdJump {
		block.End.A = m.known(b)
	}
}

func (m *strictMaker) moves(b int64) []impl.Move {
	moves, given := []impl.Move{}, []int64{}
	for range m.r.Intn(3) {
		name := m.fresh()
		moves = append(moves, move(name, m.known(b)))
		given = append(given, name)
	}
	m.given[b] = append(m.given[b], given...)
	return moves
}

func (m *strictMaker) ins(b int64, first bool) impl.Ins {
	op := 1 + m.r.Int63n(7)
	switch {
	case first || op == impl.OpConst:
		op = impl.OpConst
	case op == impl.OpEmit:
		return ins(op, -1, m.known(b), 0)
	}
	i := ins(op, m.fresh(), m.r.Int63n(9), 0)
	if op != impl.OpConst {
		i.A = m.known(b)
	}
	if op > impl.OpCopy {
		i.B = m.known(b)
	}
	m.given[b] = append(m.given[b], i.Var)
	return i
}

// namePlaces has all that is a name in a function, to be written into.
func namePlaces(f *impl.Fun) []*int64 {
	names := []*int64{}
	for at := range f.Blocks {
		b := &f.Blocks[at]
		for i := range b.Phis {
			names = append(names, &b.Phis[i].Var)
			for j := range b.Phis[i].Args {
				names = append(names, &b.Phis[i].Args[j])
			}
		}
		for _, moves := range [][]impl.Move{b.Head, b.Tail} {
			for i := range moves {
				names = append(names, &moves[i].To, &moves[i].From)
			}
		}
		for i := range b.Body {
			one := &b.Body[i]
			if one.Op != impl.OpEmit {
				names = append(names, &one.Var)
			}
			names = append(names, []*int64{&one.A, &one.B}[:len(usesRight(*one))]...)
		}
		if b.End.Kind != impl.EdJump {
			names = append(names, &b.End.A)
		}
	}
	return names
}

// shuffleNames gives the names other numbers; the Params keep theirs.
func shuffleNames(r *rand.Rand, f *impl.Fun) {
	numbers := rising(0, f.Names-1)
	others := numbers[f.Params:]
	r.Shuffle(len(others), func(i int, j int) { others[i], others[j] = others[j], others[i] })
	for _, name := range namePlaces(f) {
		*name = numbers[*name]
	}
}

func TestManyStrict(t *testing.T) {
	r := rand.New(rand.NewSource(15))
	codes := map[int64]int{}
	for n := range 600 {
		f := anyStrict(r, 1+r.Intn(9), n%2 == 0)
		what := fmt.Sprint("strict function ", n)
		if !impl.Strict(f) {
			t.Errorf("%s: Strict is false; not strict as: %q", what, notStrict(f))
		}
		checkStrict(t, what, f)
		names := namePlaces(&f)
		for change := range 8 {
			name := names[r.Intn(len(names))]
			was := *name
			*name = r.Int63n(f.Names)
			checkCode(t, fmt.Sprint(what, ", change ", change), f)
			codes[impl.CodeOf(f)]++
			*name = was
		}
	}
	for _, code := range []int64{impl.FnOk, impl.FnMoves, impl.FnTwice, impl.FnLoose, impl.FnLarge} {
		if codes[code] < 50 {
			t.Errorf("of all codes there are %v", codes)
		}
	}
}

func TestManyPlaces(t *testing.T) {
	r := rand.New(rand.NewSource(16))
	for n := range 500 {
		checkStrict(t, fmt.Sprint("function ", n), anyFun(r))
		checkStrict(t, fmt.Sprint("graph ", n), anyGraph(r))
	}
}

func TestManyStrictChanged(t *testing.T) {
	r := rand.New(rand.NewSource(17))
	values := append([]int64{-1, 0, 1, 2, 3, 12, 39, 40, 149, 150}, farNumbers...)
	for n := range 2000 {
		f := anyStrict(r, 1+r.Intn(6), n%2 == 0)
		numbers := numbersOf(&f)
		*numbers[r.Intn(len(numbers))] = values[r.Intn(len(values))]
		wantNoPanic(t, f, func() { checkStrict(t, fmt.Sprint("changed function ", n), f) })
	}
}

func TestStrictDoesNotPanic(t *testing.T) {
	r := rand.New(rand.NewSource(18))
	for n := range 4000 {
		f := wildFun(r)
		if n%2 == 0 {
			f.Params, f.Names = 0, r.Int63n(impl.MaxNames+1)
		}
		wantNoPanic(t, fmt.Sprintf("wild function %d: %v", n, f), func() {
			checkStrict(t, f, f)
			wantNoPlaces(t, f, f, farNumbers[r.Intn(len(farNumbers))])
		})
	}
	many := funOf(1, slices.Repeat([]impl.End{jump(1)}, 10000)...)
	wantNoPanic(t, "many blocks", func() { wantNotStrict(t, "many blocks", many) })
}

func TestPlacesAreNewMemory(t *testing.T) {
	wrong := fullFun()
	wrong.Names = 1
	for what, f := range map[string]impl.Fun{"full": fullFun(), "fullest": fullest(), "loop": loopFun(), "strictest": strictest(), "wrong": wrong, "zero": {}} {
		for _, name := range []int64{-1, 0, 1, 2, 3, 4, 5, 6, 7, 8, 9, 10, 40, 75, 110, lastName, impl.MaxNames} {
			wantNewLists(t, fmt.Sprintf("%s: DefsOf %d", what, name), func() []impl.Place { return impl.DefsOf(f, name) }, place(-7, -7), place(-8, -8))
			wantNewLists(t, fmt.Sprintf("%s: TakesOf %d", what, name), func() []impl.Place { return impl.TakesOf(f, name) }, place(-7, -7), place(-8, -8))
		}
	}
}

func TestStrictStays(t *testing.T) {
	r := rand.New(rand.NewSource(19))
	funs := []impl.Fun{{}, fullFun(), fullest(), loopFun(), strictest(), funOf(0, jump(1), jump(1)), funOf(1, jump(0))}
	for range 60 {
		funs = append(funs, anyFun(r), anyStrict(r, 5, true), wildFun(r))
	}
	for at, f := range funs {
		wantFunStays(t, fmt.Sprintf("function %d: DefsOf", at), f, func(f impl.Fun) {
			for name := range int64(10) {
				overwrite(impl.DefsOf(f, name), place(-7, -7))
			}
		})
		wantFunStays(t, fmt.Sprintf("function %d: TakesOf", at), f, func(f impl.Fun) {
			for name := range int64(10) {
				overwrite(impl.TakesOf(f, name), place(-7, -7))
			}
		})
		wantFunStays(t, fmt.Sprintf("function %d: Strict", at), f, func(f impl.Fun) { impl.Strict(f) })
		wantFunStays(t, fmt.Sprintf("function %d: CodeOf", at), f, func(f impl.Fun) { impl.CodeOf(f) })
	}
}
