package tests

import (
	"math"
	"testing"

	"loop.example/g01209/impl"
)

// This file tests promise 11 for chapter 3.

var allCalls = map[string]any{
	"CountLeast": impl.CountLeast, "AllLeast": impl.AllLeast, "CountFirst": impl.CountFirst, "CountAllLeast": impl.CountAllLeast,
	"CountByLength": impl.CountByLength, "LongestByFormula": impl.LongestByFormula, "SlideClasses": impl.SlideClasses,
	"SizesOfClasses": impl.SizesOfClasses, "FlipEdges": impl.FlipEdges, "FlipsBetween": impl.FlipsBetween, "FarthestFlips": impl.FarthestFlips,
	"FlipWays": impl.FlipWays, "RankOfLeast": impl.RankOfLeast, "LeastOfRank": impl.LeastOfRank,
}

// checkOfOrders checks all calls with an order of at least 2 numbers.
func checkOfOrders(t *testing.T, check func(*testing.T, string, any, ...any), p []int) {
	t.Helper()
	check(t, "CountLeast", impl.CountLeast, p)
	check(t, "CountFirst", impl.CountFirst, p, 0)
	check(t, "LeastOfRank", impl.LeastOfRank, p, 0)
}

// checkOfLists checks all calls with an order whose ladders are listed.
func checkOfLists(t *testing.T, check func(*testing.T, string, any, ...any), p []int) {
	t.Helper()
	check(t, "AllLeast", impl.AllLeast, p)
	check(t, "SlideClasses", impl.SlideClasses, p)
	check(t, "SizesOfClasses", impl.SizesOfClasses, p)
	check(t, "FlipEdges", impl.FlipEdges, p)
	check(t, "FarthestFlips", impl.FarthestFlips, p)
}

// checkOfLadders checks all calls with a least ladder.
func checkOfLadders(t *testing.T, check func(*testing.T, string, any, ...any), l impl.Ladder) {
	t.Helper()
	check(t, "FlipsBetween", impl.FlipsBetween, l, l)
	check(t, "FlipWays", impl.FlipWays, l)
	check(t, "RankOfLeast", impl.RankOfLeast, l)
}

func TestAllCallsAcceptAllArguments(t *testing.T) {
	pools := leastPools()
	pool(pools, []int{4, 3, 2, 1, 0}, []int{5, 4, 3, 2, 1, 0}, []int{0, 1, 2, 3, 4, 5}, []int{4, 5, 1, 2, 3, 0}, []int{1, 0, 3, 2, 5, 4})
	pool(pools,
		impl.Ladder{Wires: 6, Rungs: []int{0, 1, 0, 2, 1, 0, 3, 2, 1, 0, 4, 3, 2, 1, 0}}, impl.Ladder{Wires: 4, Rungs: []int{2, 0}},
		impl.Ladder{Wires: 4, Rungs: []int{0, 1, 0, 2, 1, 0}}, impl.Ladder{Wires: 4, Rungs: []int{2, 1, 2, 0, 1, 2}},
		impl.Ladder{Wires: 3, Rungs: []int{0, 1, 0}}, impl.Ladder{Wires: 3, Rungs: []int{1, 0, 1}},
	)
	pool(pools, 767, 768, 800, 801, 292863, 292864)
	for name, f := range allCalls {
		sweep(t, name, f, pools)
	}
}

func TestOrdersThatAreNotCounted(t *testing.T) {
	for _, p := range [][]int{{0, 1}, {1, 0}, {2, 1, 0}, {0, 1, 2, 3, 4, 5}, {1, 0, 3, 2, 5, 4}, {4, 3, 2, 1, 0}, {4, 3, 2, 1, 0, 5}} {
		checkOfOrders(t, succeeds, p)
		checkOfLists(t, succeeds, p)
	}
	// These are orders of 1 number and of more than MaxCounted.
	for _, p := range append(invalidOrders(), []int{0}, []int{0, 1, 2, 3, 4, 5, 6}, []int{1, 0, 2, 3, 4, 5, 6}, []int{1, 0, 2, 3, 4, 5, 6, 7}) {
		checkOfOrders(t, fails, p)
		checkOfLists(t, fails, p)
	}
}

func TestTooManyToBeListed(t *testing.T) {
	for _, p := range [][]int{{4, 5, 1, 2, 3, 0}, {5, 2, 3, 4, 0, 1}, {5, 4, 0, 3, 1, 2}, {5, 4, 3, 2, 1, 0}} {
		checkOfOrders(t, succeeds, p)
		checkOfLists(t, fails, p)
		l := must[impl.Ladder](t)(impl.LeastLadder(p))
		succeeds(t, "RankOfLeast", impl.RankOfLeast, l)
		fails(t, "FlipWays", impl.FlipWays, l)
		fails(t, "FlipsBetween", impl.FlipsBetween, l, l)
	}
}

func TestLaddersThatAreNotLeast(t *testing.T) {
	for _, l := range []impl.Ladder{
		{Wires: 2}, {Wires: 6}, {Wires: 2, Rungs: []int{0}}, {Wires: 6, Rungs: []int{4, 0, 2}}, {Wires: 4, Rungs: []int{2, 1, 2, 0, 1, 2}},
		{Wires: 5, Rungs: []int{0, 1, 0, 2, 1, 0, 3, 2, 1, 0}},
	} {
		checkOfLadders(t, succeeds, l)
	}
	for _, l := range append(invalidLadders(),
		impl.Ladder{Wires: 7}, impl.Ladder{Wires: 8, Rungs: []int{0}}, impl.Ladder{Wires: 7, Rungs: []int{0, 1, 0}},
		impl.Ladder{Wires: 2, Rungs: []int{0, 0}}, impl.Ladder{Wires: 3, Rungs: []int{0, 1, 0, 1}}, impl.Ladder{Wires: 6, Rungs: []int{0, 2, 0}},
		impl.Ladder{Wires: 6, Rungs: []int{0, 2, 0, 1}}, impl.Ladder{Wires: 6, Rungs: manyRungs(60)},
	) {
		checkOfLadders(t, fails, l)
		fails(t, "FlipsBetween", impl.FlipsBetween, l, impl.Ladder{Wires: l.Wires})
		fails(t, "FlipsBetween", impl.FlipsBetween, impl.Ladder{Wires: l.Wires}, l)
	}
}

func TestLaddersThatFlipsDoNotJoin(t *testing.T) {
	l := impl.Ladder{Wires: 4, Rungs: []int{0, 2}}
	succeeds(t, "FlipsBetween", impl.FlipsBetween, l, impl.Ladder{Wires: 4, Rungs: []int{2, 0}})
	for _, other := range []impl.Ladder{
		{Wires: 4}, {Wires: 4, Rungs: []int{0}}, {Wires: 4, Rungs: []int{0, 1}}, {Wires: 5, Rungs: []int{0, 2}}, {Wires: 3, Rungs: []int{0, 1}},
		{Wires: 4, Rungs: []int{0, 2, 1, 1}}, {Wires: 4, Rungs: []int{0, 3}}, {Wires: 7, Rungs: []int{0, 2}}, {},
	} {
		fails(t, "FlipsBetween", impl.FlipsBetween, l, other)
		fails(t, "FlipsBetween", impl.FlipsBetween, other, l)
	}
	// Without rungs, ladders differ only in their wires.
	fails(t, "FlipsBetween", impl.FlipsBetween, impl.Ladder{Wires: 3}, impl.Ladder{Wires: 4})
}

func TestCountedNumbersOutsideFail(t *testing.T) {
	for _, n := range []int{math.MinInt, -1, 0, 1, 7, 8, 9, 60, math.MaxInt} {
		fails(t, "CountAllLeast", impl.CountAllLeast, n)
		fails(t, "CountByLength", impl.CountByLength, n)
		fails(t, "LongestByFormula", impl.LongestByFormula, n)
	}
	for _, n := range []int{2, 6} {
		succeeds(t, "CountAllLeast", impl.CountAllLeast, n)
		succeeds(t, "CountByLength", impl.CountByLength, n)
		succeeds(t, "LongestByFormula", impl.LongestByFormula, n)
	}
	p := []int{2, 3, 1, 0}
	for _, rung := range []int{0, 1, 2} {
		succeeds(t, "CountFirst", impl.CountFirst, p, rung)
	}
	for _, rung := range []int{math.MinInt, -1, 3, 4, 60, math.MaxInt} {
		fails(t, "CountFirst", impl.CountFirst, p, rung)
	}
	for _, rank := range []int{math.MinInt, -1, 5, 6, 800, math.MaxInt} {
		fails(t, "LeastOfRank", impl.LeastOfRank, p, rank)
	}
	for rank := range 5 {
		succeeds(t, "LeastOfRank", impl.LeastOfRank, p, rank)
	}
}
