package tests

import (
	"math"
	"slices"
	"testing"
)

// farNumbers are out of range everywhere; some of them would be in range in fewer bits.
var farNumbers = []int64{math.MinInt64, math.MinInt64 + 1, math.MinInt32, -256, 1 << 32, 1<<32 + 1, 1<<32 + 3, math.MaxInt64 - 1, math.MaxInt64}

// wantNewMemory fails where the lists of two calls, or their spare room, are one.
func wantNewMemory(t *testing.T, what string, call func() []int64) {
	t.Helper()
	want := slices.Clone(call())
	first, second := call(), call()
	for i := range first {
		first[i] = -7
	}
	_ = append(first, -7)
	_ = append(first[:0], -7, -7, -7)
	if !slices.Equal(second, want) || !slices.Equal(call(), want) {
		t.Errorf("%s: writing into one answer changes another one", what)
	}
	grown := append(second, 1)
	_ = append(call(), 2)
	if grown[len(second)] != 1 {
		t.Errorf("%s: two answers share their spare room", what)
	}
}

// wantNoPanic tells of which call panicked, instead of ending the whole run.
func wantNoPanic(t *testing.T, what any, call func()) {
	t.Helper()
	defer func() {
		if r := recover(); r != nil {
			t.Errorf("%v: panic: %v", what, r)
		}
	}()
	call()
}
