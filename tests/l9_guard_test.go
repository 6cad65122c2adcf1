package tests

import (
	"math"
	"reflect"
	"slices"
	"testing"

	"loop.example/g01209/impl"
)

// This file tests promise 11 for chapter 9.

var levelCalls = map[string]any{
	"LevelsOf": impl.LevelsOf, "DepthOf": impl.DepthOf, "LadderOfLevels": impl.LadderOfLevels, "IsLevel": impl.IsLevel,
	"AllLevels": impl.AllLevels, "CountLevels": impl.CountLevels, "LeastDepth": impl.LeastDepth, "LeastLevels": impl.LeastLevels,
	"CountDepths": impl.CountDepths, "BrickLadder": impl.BrickLadder, "BrickOrder": impl.BrickOrder, "BrickRoute": impl.BrickRoute,
	"BrickDepth": impl.BrickDepth, "WidestLevel": impl.WidestLevel,
}

// repeated returns a list that has one level so many times.
func repeated(level []int, times int) [][]int { return slices.Repeat([][]int{level}, times) }

func levelPools() map[reflect.Type][]reflect.Value {
	pools := map[reflect.Type][]reflect.Value{}
	pool(pools, append(validLadders(), invalidLadders()...)...)
	pool(pools, impl.Ladder{Wires: 8, Rungs: bubbled(8)}, impl.Ladder{Wires: 8, Rungs: slices.Repeat([]int{6, 4, 2, 0}, 15)})
	pool(pools, append(validOrders(), invalidOrders()...)...)
	pool(pools, othersOf(6, -1), othersOf(7, -1), []int{5, 4, 3, 2, 1, 0}, []int{1, 0, 3, 2, 5, 4}, []int{6, 5, 4, 3, 2, 1, 0})
	pool(pools, []int{0, 2}, []int{0, 2, 4, 6}, []int{0, 2, 4, 6, 8}, []int{6, 4}, []int{math.MinInt, math.MaxInt}, []int{math.MaxInt, math.MinInt})
	pool(pools, [][]int(nil), [][]int{}, [][]int{nil}, [][]int{{}}, [][]int{{0}}, [][]int{{0}, {0}}, [][]int{{0, 2}, nil, {1}}, [][]int{{0, 1}})
	pool(pools, [][]int{{math.MaxInt}, {math.MinInt}}, [][]int{{0}, {2, 0}}, repeated([]int{0}, 60), repeated([]int{0}, 61), repeated(nil, 60), repeated(nil, 61))
	pool(pools, repeated([]int{0, 2, 4, 6}, 15), repeated([]int{0, 2, 4, 6}, 16), repeated(make([]int, 5000), 60), repeated(nil, 5000))
	pool(pools, append(anyInts(), 4, 5, 17, 18, 19, 20, 21)...)
	return pools
}

func TestLevelCallsAcceptAllArguments(t *testing.T) {
	pools := levelPools()
	for name, f := range levelCalls {
		sweep(t, name, f, pools)
	}
}

func TestNoLadderHasLevels(t *testing.T) {
	check := func(check func(*testing.T, string, any, ...any), l impl.Ladder) {
		check(t, "LevelsOf", impl.LevelsOf, l)
		check(t, "DepthOf", impl.DepthOf, l)
		check(t, "WidestLevel", impl.WidestLevel, l)
	}
	for _, l := range validLadders() {
		check(succeeds, l)
	}
	for _, l := range invalidLadders() {
		check(fails, l)
	}
	for n := 2; n <= impl.MaxWires; n++ {
		check(succeeds, impl.Ladder{Wires: n})
		check(succeeds, impl.Ladder{Wires: n, Rungs: make([]int, 60)})
		check(succeeds, impl.Ladder{Wires: n, Rungs: bubbled(n)})
		check(fails, impl.Ladder{Wires: n, Rungs: make([]int, 61)})
		for _, rung := range append(farNumbers(), -n, -2, -1, n-1, n, 7, 8) {
			check(fails, impl.Ladder{Wires: n, Rungs: []int{rung}})
			check(fails, impl.Ladder{Wires: n, Rungs: append(bubbled(n), rung)})
		}
	}
}

// TestNumbersOfLeveledWires takes numbers of wires at and beyond their bounds.
func TestNumbersOfLeveledWires(t *testing.T) {
	for _, n := range append(farNumbers(), -8, -2, -1, 0, 1, 2, 3, 4, 5, 6, 7, 8, 9, 10, 16) {
		check, checkMade := fails, fails
		if n >= 2 && n <= 8 {
			check = succeeds
		}
		if n >= 2 && n <= 6 {
			checkMade = succeeds
		}
		check(t, "AllLevels", impl.AllLevels, n)
		check(t, "CountLevels", impl.CountLevels, n)
		checkMade(t, "CountDepths", impl.CountDepths, n)
		for _, levels := range [][][]int{nil, {nil}, {{0}}, repeated([]int{0}, 60), repeated(nil, 60)} {
			check(t, "LadderOfLevels", impl.LadderOfLevels, n, levels)
		}
		for _, list := range append(badLists(4), nil, []int{}, []int{0}, []int{0, 2, 4, 6}) {
			check(t, "IsLevel", impl.IsLevel, n, list)
		}
		for k := range 18 {
			check(t, "BrickLadder", impl.BrickLadder, n, k)
			check(t, "BrickOrder", impl.BrickOrder, n, k)
		}
	}
}

func TestNumbersOfBricks(t *testing.T) {
	for n := 2; n <= impl.MaxWires; n++ {
		for _, k := range append(farNumbers(), -20, -2, -1, 18, 19, 20, 21, 22, 60) {
			check := fails
			if n < 8 && k >= 18 && k <= 20 {
				check = succeeds
			}
			check(t, "BrickLadder", impl.BrickLadder, n, k)
			check(t, "BrickOrder", impl.BrickOrder, n, k)
		}
	}
}

// TestListsThatAreNoLevel puts a list that is no level among others.
func TestListsThatAreNoLevel(t *testing.T) {
	for n := 2; n <= impl.MaxWires; n++ {
		bad := append(badLists(n-1), []int{n - 1}, []int{n}, []int{-1}, []int{0, 1}, []int{0, n - 1}, []int{0, 2, 3}, []int{2, 0}, othersOf(60, -1))
		for _, far := range farNumbers() {
			bad = append(bad, []int{far})
		}
		for _, list := range bad {
			for _, levels := range [][][]int{{list}, {list, {0}}, {{0}, list}, {nil, {0}, list, nil}, append(repeated(nil, 59), list)} {
				fails(t, "LadderOfLevels", impl.LadderOfLevels, n, levels)
			}
		}
		for _, list := range flatLists(n) {
			for _, levels := range [][][]int{{list}, {list, {0}}, {{0}, list}, {nil, {0}, list, nil}, append(repeated(nil, 59), list)} {
				succeeds(t, "LadderOfLevels", impl.LadderOfLevels, n, levels)
			}
		}
	}
}

// TestGreatestLevels takes just as many levels and rungs as there may be, and
// one more.
func TestGreatestLevels(t *testing.T) {
	for n := 2; n <= impl.MaxWires; n++ {
		for _, level := range flatLists(n) {
			for times := 58; times <= 62; times++ {
				check := succeeds
				if times > 60 || len(level) > 1 {
					check = fails
				}
				check(t, "LadderOfLevels", impl.LadderOfLevels, n, repeated(level, times))
			}
			if len(level) == 0 {
				continue
			}
			// The rest of the levels is empty.
			full := append(repeated(level, 60/len(level)), repeated(nil, 60-60/len(level))...)
			succeeds(t, "LadderOfLevels", impl.LadderOfLevels, n, full)
			fails(t, "LadderOfLevels", impl.LadderOfLevels, n, append(slices.Clone(full), nil))
			if len(level) > 1 {
				full[59] = []int{level[0]}
				fails(t, "LadderOfLevels", impl.LadderOfLevels, n, full)
			}
		}
		fails(t, "LadderOfLevels", impl.LadderOfLevels, n, repeated(nil, 5000))
		fails(t, "LadderOfLevels", impl.LadderOfLevels, n, repeated([]int{0}, 5000))
	}
}

func TestNoOrderIsMade(t *testing.T) {
	check := func(check, checkMade func(*testing.T, string, any, ...any), p []int) {
		check(t, "BrickRoute", impl.BrickRoute, p)
		check(t, "BrickDepth", impl.BrickDepth, p)
		checkMade(t, "LeastDepth", impl.LeastDepth, p)
		checkMade(t, "LeastLevels", impl.LeastLevels, p)
	}
	for _, p := range invalidOrders() {
		check(fails, fails, p)
	}
	check(fails, fails, []int{0})
	for n := 2; n <= impl.MaxWires; n++ {
		checkMade := succeeds
		if n > 6 {
			checkMade = fails
		}
		rising, falling := othersOf(n, -1), othersOf(n, -1)
		slices.Reverse(falling)
		check(succeeds, checkMade, rising)
		check(succeeds, checkMade, falling)
		for at := range n {
			for _, number := range append(farNumbers(), -1, n, n+1, rising[(at+1)%n]) {
				bad := slices.Clone(rising)
				bad[at] = number
				check(fails, fails, bad)
			}
		}
	}
	check(fails, fails, othersOf(9, -1))
	check(fails, fails, othersOf(5000, -1))
}

// TestLevelCallsAreRepeated calls each function often with the same arguments:
// which wire is heard first must not show.
func TestLevelCallsAreRepeated(t *testing.T) {
	l := impl.Ladder{Wires: 8, Rungs: []int{6, 0, 3, 5, 2, 1, 1, 0, 2, 3, 6, 4, 1, 0}}
	given := map[reflect.Type]any{
		reflect.TypeFor[impl.Ladder](): l, reflect.TypeFor[[]int](): []int{3, 5, 1, 0, 4, 2},
		reflect.TypeFor[[][]int](): [][]int{{0, 2}, nil, {1, 4}}, reflect.TypeFor[int](): 6,
	}
	for name, f := range levelCalls {
		kind := reflect.TypeOf(f)
		args := make([]any, kind.NumIn())
		for i := range args {
			args[i] = given[kind.In(i)]
		}
		first := guarded(t, name, f, valuesOf(args))
		for range 50 {
			if again := guarded(t, name, f, valuesOf(args)); !allAlike(first, again) {
				t.Fatal(name, shown(first), shown(again))
			}
		}
	}
}
