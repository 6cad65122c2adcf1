package tests

import (
	"math"
	"reflect"
	"slices"
	"strings"
	"testing"

	"loop.example/g01209/impl"
)

// This file tests promise 11 for chapter 2.

var leastCalls = map[string]any{
	"InversionsOf": impl.InversionsOf, "InvertedPairs": impl.InvertedPairs, "IsLeast": impl.IsLeast, "LeastLadder": impl.LeastLadder,
	"NeedlessRungs": impl.NeedlessRungs, "ReduceLadder": impl.ReduceLadder, "SlideRung": impl.SlideRung, "FlipRungs": impl.FlipRungs,
	"DropPair": impl.DropPair, "MovesOn": impl.MovesOn, "MakeMove": impl.MakeMove, "MeetTwice": impl.MeetTwice, "FirstSame": impl.FirstSame,
	"SlideClass": impl.SlideClass, "AreSlides": impl.AreSlides, "CodeOf": impl.CodeOf, "OrderOfCode": impl.OrderOfCode,
	"DescentsOf": impl.DescentsOf, "LongestLadder": impl.LongestLadder,
}

func leastPools() map[reflect.Type][]reflect.Value {
	pools := ladderPools()
	pool(pools,
		impl.Ladder{Wires: 4, Rungs: []int{0, 2}}, impl.Ladder{Wires: 3, Rungs: []int{1, 1}}, impl.Ladder{Wires: 8, Rungs: []int{6, 4, 2, 0, 0, 1, 0}},
		impl.Ladder{Wires: 8, Rungs: slices.Repeat([]int{6, 4, 2, 0}, 15)}, impl.Ladder{Wires: 5, Rungs: []int{0, 2, 2}},
	)
	pool(pools, []int{0, 0, 0}, []int{2, 1, 0}, []int{0, 1, 1, 0}, []int{1, 0, 0}, []int{7, 0, 0, 0, 0, 0, 0, 0})
	pool(pools, "s0", "f0", "d0", "s1", "f4", "d3", "d03", "s-1", "f9999999999999999999", "d"+strings.Repeat("0", 5000))
	return pools
}

func TestLeastCallsAcceptAllArguments(t *testing.T) {
	pools := leastPools()
	for name, f := range leastCalls {
		sweep(t, name, f, pools)
	}
}

// TestNoLadderToMoveFails takes arguments that succeed with a ladder, so that
// only the ladder is at fault.
func TestNoLadderToMoveFails(t *testing.T) {
	// Each ladder here can be slid, flipped and dropped, and somebody meets
	// twice on it.
	rungs := []int{0, 1, 0, 0, 2}
	all := func(check func(*testing.T, string, any, ...any), l impl.Ladder) {
		check(t, "IsLeast", impl.IsLeast, l)
		check(t, "NeedlessRungs", impl.NeedlessRungs, l)
		check(t, "ReduceLadder", impl.ReduceLadder, l)
		check(t, "SlideRung", impl.SlideRung, l, 3)
		check(t, "FlipRungs", impl.FlipRungs, l, 0)
		check(t, "DropPair", impl.DropPair, l, 2)
		check(t, "MovesOn", impl.MovesOn, l)
		check(t, "MakeMove", impl.MakeMove, l, "s3")
		check(t, "MakeMove", impl.MakeMove, l, "f0")
		check(t, "MakeMove", impl.MakeMove, l, "d2")
		check(t, "MeetTwice", impl.MeetTwice, l)
		check(t, "FirstSame", impl.FirstSame, l)
		check(t, "SlideClass", impl.SlideClass, l)
		check(t, "AreSlides", impl.AreSlides, l, impl.Ladder{Wires: l.Wires})
		check(t, "AreSlides", impl.AreSlides, impl.Ladder{Wires: l.Wires}, l)
		check(t, "AreSlides", impl.AreSlides, l, l)
	}
	all(succeeds, impl.Ladder{Wires: 4, Rungs: rungs})
	all(succeeds, impl.Ladder{Wires: 8, Rungs: append(slices.Clone(rungs), make([]int, 55)...)})
	for _, l := range []impl.Ladder{
		{Rungs: rungs}, {Wires: -1, Rungs: rungs}, {Wires: 1, Rungs: rungs}, {Wires: 3, Rungs: rungs}, {Wires: 9, Rungs: rungs},
		{Wires: math.MinInt, Rungs: rungs}, {Wires: math.MaxInt, Rungs: rungs}, {Wires: 4, Rungs: append(slices.Clone(rungs), -1)},
		{Wires: 4, Rungs: append(slices.Clone(rungs), 3)}, {Wires: 4, Rungs: append(slices.Clone(rungs), math.MinInt)},
		{Wires: 4, Rungs: append(slices.Clone(rungs), math.MaxInt)}, {Wires: 8, Rungs: append(slices.Clone(rungs), make([]int, 56)...)},
		{Wires: 3, Rungs: []int{math.MinInt, math.MaxInt, math.MinInt, math.MinInt, math.MaxInt}},
	} {
		all(fails, l)
	}
	for _, l := range invalidLadders() {
		all(fails, l)
	}
	fails(t, "AreSlides", impl.AreSlides, impl.Ladder{Wires: 3}, impl.Ladder{Wires: 4})
	// A move that takes the fault away does not make it a ladder.
	fails(t, "DropPair", impl.DropPair, impl.Ladder{Wires: 3, Rungs: []int{2, 2}}, 0)
	fails(t, "DropPair", impl.DropPair, impl.Ladder{Wires: 3, Rungs: make([]int, 62)}, 0)
	fails(t, "MakeMove", impl.MakeMove, impl.Ladder{Wires: 3, Rungs: make([]int, 61)}, "d0")
}

func TestIndicesOutsideFail(t *testing.T) {
	slides := impl.Ladder{Wires: 4, Rungs: []int{0, 2, 0}}
	flips := impl.Ladder{Wires: 3, Rungs: []int{0, 1, 0, 1}}
	drops := impl.Ladder{Wires: 2, Rungs: []int{0, 0, 0}}
	near := impl.Ladder{Wires: 3, Rungs: []int{0, 1, 1}}
	for _, at := range []int{0, 1} {
		succeeds(t, "SlideRung", impl.SlideRung, slides, at)
		succeeds(t, "FlipRungs", impl.FlipRungs, flips, at)
		succeeds(t, "DropPair", impl.DropPair, drops, at)
		fails(t, "SlideRung", impl.SlideRung, near, at)
		fails(t, "FlipRungs", impl.FlipRungs, slides, at)
		fails(t, "FlipRungs", impl.FlipRungs, drops, at)
		fails(t, "FlipRungs", impl.FlipRungs, near, at)
		fails(t, "DropPair", impl.DropPair, slides, at)
		fails(t, "DropPair", impl.DropPair, flips, at)
	}
	for _, at := range []int{math.MinInt, math.MinInt + 1, -2, -1, 2, 3, 4, 60, math.MaxInt - 2, math.MaxInt - 1, math.MaxInt} {
		fails(t, "SlideRung", impl.SlideRung, slides, at)
		fails(t, "FlipRungs", impl.FlipRungs, flips, at)
		fails(t, "DropPair", impl.DropPair, drops, at)
		fails(t, "SlideRung", impl.SlideRung, impl.Ladder{Wires: 3}, at)
		fails(t, "FlipRungs", impl.FlipRungs, impl.Ladder{Wires: 3}, at)
		fails(t, "DropPair", impl.DropPair, impl.Ladder{Wires: 3}, at)
	}
	for _, n := range []int{math.MinInt, -1, 0, 1, 9, 10, math.MaxInt} {
		fails(t, "LongestLadder", impl.LongestLadder, n)
	}
}

func TestNoOrderHasNoInversions(t *testing.T) {
	for _, p := range invalidOrders() {
		fails(t, "InversionsOf", impl.InversionsOf, p)
		fails(t, "InvertedPairs", impl.InvertedPairs, p)
		fails(t, "LeastLadder", impl.LeastLadder, p)
		fails(t, "CodeOf", impl.CodeOf, p)
		fails(t, "DescentsOf", impl.DescentsOf, p)
	}
	for _, p := range validOrders() {
		succeeds(t, "InversionsOf", impl.InversionsOf, p)
		succeeds(t, "InvertedPairs", impl.InvertedPairs, p)
		succeeds(t, "CodeOf", impl.CodeOf, p)
		succeeds(t, "DescentsOf", impl.DescentsOf, p)
	}
}

func TestNoCodeFails(t *testing.T) {
	for _, code := range [][]int{
		nil, {}, {1}, {-1}, {2, 0}, {0, 1}, {1, -1}, {1, 1, 1}, {3, 0, 0}, {0, 2, 0}, {math.MinInt, 0}, {0, math.MaxInt}, {0, 0, math.MinInt},
		{8, 0, 0, 0, 0, 0, 0, 0}, {7, 7, 0, 0, 0, 0, 0, 0}, {0, 0, 0, 0, 0, 0, 0, 1}, make([]int, 9), {8, 7, 6, 5, 4, 3, 2, 1, 0}, make([]int, 5000),
	} {
		fails(t, "OrderOfCode", impl.OrderOfCode, code)
	}
	succeeds(t, "OrderOfCode", impl.OrderOfCode, make([]int, 8))
}
