package tests

import (
	"math"
	"reflect"
	"slices"
	"testing"

	"loop.example/g00823/impl"
)

// farNumbers are out of range everywhere; some of them would be in range in fewer bits.
var farNumbers = []int64{math.MinInt64, math.MinInt64 + 1, math.MinInt32, -256, 1 << 32, 1<<32 + 1, 1<<32 + 3, math.MaxInt64 - 1, math.MaxInt64}

// wantNewMemory fails where the lists of two calls, or their spare room, are one.
func wantNewMemory(t *testing.T, what string, call func() []int64) {
	t.Helper()
	wantNewLists(t, what, call, -7, -8)
}

// wantNewLists writes two fillers, so that each place of a list is changed by one of them at least.
func wantNewLists[T comparable](t *testing.T, what string, call func() []T, filler T, other T) {
	t.Helper()
	want := slices.Clone(call())
	for _, written := range []T{filler, other} {
		first, second := call(), call()
		for i := range first {
			first[i] = written
		}
		_ = append(first, written)
		_ = append(first[:0], written, written, written)
		if !slices.Equal(second, want) || !slices.Equal(call(), want) {
			t.Errorf("%s: writing into one answer changes another one", what)
		}
	}
	second := call()
	grown := append(second, filler)
	_ = append(call(), other)
	if grown[len(second)] != filler {
		t.Errorf("%s: two answers share their spare room", what)
	}
}

// wantNoPanic tells of which call panicked, instead of ending the whole run.
func wantNoPanic(t *testing.T, what any, call func()) {
	t.Helper()
	defer func() {
		if r := recover(); r != nil {
			t.Errorf("%v: panic: %v", what, r)
		}
	}()
	call()
}

// roomy is the list anew, with spare room behind it that is filled.
func roomy[T any](list []T, filler T) []T {
	room := slices.Concat(list, []T{filler, filler, filler})
	return room[:len(list):len(room)]
}

// roomyFun is the function anew, each of its lists with spare room.
func roomyFun(f impl.Fun) impl.Fun {
	f.Blocks = roomy(f.Blocks, impl.Block{End: impl.End{Kind: -5}})
	for at := range f.Blocks {
		b := &f.Blocks[at]
		b.Phis = roomy(b.Phis, impl.Phi{Var: -5})
		for i := range b.Phis {
			b.Phis[i].Args = roomy(b.Phis[i].Args, -5)
		}
		b.Head = roomy(b.Head, impl.Move{To: -5, From: -5})
		b.Body = roomy(b.Body, impl.Ins{Op: -5})
		b.Tail = roomy(b.Tail, impl.Move{To: -5, From: -5})
	}
	return f
}

// room is all of a list, with how long it was and what is in its spare room.
type room[T any] struct {
	length int
	all    []T
}

func roomOf[T any](list []T) room[T] {
	return room[T]{len(list), slices.Clone(list[:cap(list)])}
}

// roomsOf copies all that can be written into through a function.
func roomsOf(f impl.Fun) []any {
	rooms := []any{f.Params, f.Names, len(f.Blocks), cap(f.Blocks)}
	for _, b := range f.Blocks[:cap(f.Blocks)] {
		rooms = append(rooms, len(b.Phis), cap(b.Phis), roomOf(b.Head), roomOf(b.Body), roomOf(b.Tail), b.End)
		for _, p := range b.Phis[:cap(b.Phis)] {
			rooms = append(rooms, p.Var, roomOf(p.Args))
		}
	}
	return rooms
}

// wantFunStays fails where a call writes into the function, or into the spare room behind its lists.
func wantFunStays(t *testing.T, what string, f impl.Fun, call func(impl.Fun)) {
	t.Helper()
	given := roomyFun(f)
	before := roomsOf(given)
	call(given)
	if !reflect.DeepEqual(before, roomsOf(given)) {
		t.Errorf("%s: the function was written into", what)
	}
}
