package tests

import (
	"math"
	"reflect"
	"strings"
	"testing"

	"loop.example/g01209/impl"
)

// This file tests promise 11 for chapter 1.

// ladderCalls are the functions of chapter 1 whose last result tells whether
// they succeed.
var ladderCalls = map[string]any{
	"EndOf": impl.EndOf, "WayDown": impl.WayDown, "ResultOf": impl.ResultOf, "RungsUsed": impl.RungsUsed,
	"MeetingsOf": impl.MeetingsOf, "ThenOrder": impl.ThenOrder, "BackOrder": impl.BackOrder, "OrderTimes": impl.OrderTimes,
	"BelowLadder": impl.BelowLadder, "TurnLadder": impl.TurnLadder, "MirrorLadder": impl.MirrorLadder, "AddRung": impl.AddRung,
	"TakeRung": impl.TakeRung, "RepeatLadder": impl.RepeatLadder, "SignOf": impl.SignOf, "CyclesOf": impl.CyclesOf,
	"LadderText": impl.LadderText, "ParseLadder": impl.ParseLadder,
}

// manyRungs returns n rungs of a ladder of at least 3 wires.
func manyRungs(n int) []int {
	rungs := make([]int, n)
	for i := range rungs {
		rungs[i] = i % 2
	}
	return rungs
}

func validLadders() []impl.Ladder {
	return []impl.Ladder{
		{Wires: 2}, {Wires: 2, Rungs: []int{}}, {Wires: 8}, {Wires: 2, Rungs: []int{0}}, {Wires: 3, Rungs: []int{0, 1}},
		{Wires: 8, Rungs: []int{0, 6, 3}}, {Wires: 3, Rungs: manyRungs(30)}, {Wires: 3, Rungs: manyRungs(31)},
		{Wires: 3, Rungs: manyRungs(59)}, {Wires: 3, Rungs: manyRungs(60)}, {Wires: 8, Rungs: manyRungs(60)},
	}
}

func invalidLadders() []impl.Ladder {
	return []impl.Ladder{
		{}, {Rungs: []int{0}}, {Wires: -1}, {Wires: 1}, {Wires: 1, Rungs: []int{0}}, {Wires: 9}, {Wires: 9, Rungs: []int{0, 7}},
		{Wires: math.MinInt, Rungs: []int{0}}, {Wires: math.MaxInt, Rungs: []int{0}}, {Wires: 3, Rungs: []int{0, 2}},
		{Wires: 2, Rungs: []int{1}}, {Wires: 8, Rungs: []int{7}}, {Wires: 3, Rungs: []int{-1}}, {Wires: 3, Rungs: []int{0, math.MinInt}},
		{Wires: 3, Rungs: []int{math.MaxInt, 0}}, {Wires: 3, Rungs: manyRungs(61)}, {Wires: 8, Rungs: make([]int, 5000)},
	}
}

func validOrders() [][]int {
	return [][]int{{0}, {0, 1}, {1, 0}, {0, 1, 2}, {2, 0, 1}, {3, 2, 1, 0}, {1, 2, 0, 4, 3, 5, 6, 7}, {7, 6, 5, 4, 3, 2, 1, 0}}
}

func invalidOrders() [][]int {
	return [][]int{
		nil, {}, {1}, {-1}, {0, 0}, {1, 1}, {1, 2}, {0, 2}, {0, -1}, {2, 1, 3}, {0, 1, 1}, {math.MinInt, 0}, {0, math.MaxInt},
		{0, 1, 2, 3, 4, 5, 6, 7, 8}, {8, 7, 6, 5, 4, 3, 2, 1, 0}, {1, 2, 3, 4, 5, 6, 7, 8}, {0, 1, 2, 3, 4, 5, 6, 6}, make([]int, 5000),
	}
}

func ladderPools() map[reflect.Type][]reflect.Value {
	pools := map[reflect.Type][]reflect.Value{}
	pool(pools, append(validLadders(), invalidLadders()...)...)
	pool(pools, append(validOrders(), invalidOrders()...)...)
	pool(pools, anyInts()...)
	pool(pools, "", "-", ":", "3:0,1", "3:-", "9:-", "x", "\x00\xff", strings.Repeat("0,", 5000), "8:"+strings.Repeat("0,", 5000)+"0")
	return pools
}

func TestLadderCallsAcceptAllArguments(t *testing.T) {
	pools := ladderPools()
	for name, f := range ladderCalls {
		sweep(t, name, f, pools)
	}
	sweep(t, "IsLadder", impl.IsLadder, pools)
	sweep(t, "IsOrder", impl.IsOrder, pools)
}

func TestKindsOfChapter1(t *testing.T) {
	for _, l := range validLadders() {
		succeeds(t, "IsLadder", impl.IsLadder, l)
	}
	for _, l := range invalidLadders() {
		fails(t, "IsLadder", impl.IsLadder, l)
	}
	for _, p := range validOrders() {
		succeeds(t, "IsOrder", impl.IsOrder, p)
	}
	for _, p := range invalidOrders() {
		fails(t, "IsOrder", impl.IsOrder, p)
	}
}

// TestNoLadderFails takes arguments that succeed with a ladder, so that only
// the ladder is at fault.
func TestNoLadderFails(t *testing.T) {
	good := impl.Ladder{Wires: 3, Rungs: []int{0, 1}}
	check := func(check func(*testing.T, string, any, ...any), l impl.Ladder) {
		check(t, "EndOf", impl.EndOf, l, 0)
		check(t, "WayDown", impl.WayDown, l, 0)
		check(t, "ResultOf", impl.ResultOf, l)
		check(t, "RungsUsed", impl.RungsUsed, l, 0)
		check(t, "MeetingsOf", impl.MeetingsOf, l, 0, 1)
		check(t, "BelowLadder", impl.BelowLadder, l, impl.Ladder{Wires: l.Wires})
		check(t, "BelowLadder", impl.BelowLadder, impl.Ladder{Wires: l.Wires}, l)
		check(t, "TurnLadder", impl.TurnLadder, l)
		check(t, "MirrorLadder", impl.MirrorLadder, l)
		check(t, "AddRung", impl.AddRung, l, 0, 0)
		check(t, "TakeRung", impl.TakeRung, l, 0)
		check(t, "RepeatLadder", impl.RepeatLadder, l, 0)
		check(t, "RepeatLadder", impl.RepeatLadder, l, 1)
		check(t, "LadderText", impl.LadderText, l)
	}
	check(succeeds, good)
	for _, l := range invalidLadders() {
		check(fails, l)
	}
	// A rung taken out, or none of them repeated, does not make these ladders.
	fails(t, "TakeRung", impl.TakeRung, impl.Ladder{Wires: 3, Rungs: []int{2}}, 0)
	fails(t, "TakeRung", impl.TakeRung, impl.Ladder{Wires: 3, Rungs: manyRungs(61)}, 0)
	fails(t, "RepeatLadder", impl.RepeatLadder, impl.Ladder{Wires: 3, Rungs: []int{2}}, 0)
}

func TestNoOrderFails(t *testing.T) {
	for _, p := range invalidOrders() {
		fails(t, "BackOrder", impl.BackOrder, p)
		fails(t, "OrderTimes", impl.OrderTimes, p)
		fails(t, "SignOf", impl.SignOf, p)
		fails(t, "CyclesOf", impl.CyclesOf, p)
		fails(t, "ThenOrder", impl.ThenOrder, p, p)
		for _, q := range validOrders() {
			fails(t, "ThenOrder", impl.ThenOrder, p, q)
			fails(t, "ThenOrder", impl.ThenOrder, q, p)
		}
	}
	fails(t, "ThenOrder", impl.ThenOrder, []int{0, 1}, []int{0, 1, 2})
	fails(t, "ThenOrder", impl.ThenOrder, []int{2, 1, 0}, []int{1, 0})
}

func TestNumbersOutOfRangeFail(t *testing.T) {
	l := impl.Ladder{Wires: 3, Rungs: []int{0, 1}}
	bare := impl.Ladder{Wires: 3}
	full := impl.Ladder{Wires: 3, Rungs: manyRungs(60)}
	for _, n := range []int{math.MinInt, -1, 3, 4, 60, math.MaxInt} {
		fails(t, "EndOf", impl.EndOf, l, n)
		fails(t, "WayDown", impl.WayDown, l, n)
		fails(t, "RungsUsed", impl.RungsUsed, l, n)
		fails(t, "MeetingsOf", impl.MeetingsOf, l, n, 0)
		fails(t, "MeetingsOf", impl.MeetingsOf, l, 0, n)
		fails(t, "MeetingsOf", impl.MeetingsOf, l, n, n)
		fails(t, "AddRung", impl.AddRung, l, n, 0)
		fails(t, "AddRung", impl.AddRung, l, 0, n)
		fails(t, "TakeRung", impl.TakeRung, l, n)
		fails(t, "TakeRung", impl.TakeRung, bare, n)
	}
	fails(t, "MeetingsOf", impl.MeetingsOf, l, 1, 1)
	fails(t, "AddRung", impl.AddRung, l, 0, 2)
	fails(t, "AddRung", impl.AddRung, bare, 1, 0)
	fails(t, "AddRung", impl.AddRung, full, 0, 0)
	fails(t, "AddRung", impl.AddRung, full, 60, 0)
	fails(t, "TakeRung", impl.TakeRung, l, 2)
	fails(t, "TakeRung", impl.TakeRung, bare, 0)
	fails(t, "BelowLadder", impl.BelowLadder, bare, impl.Ladder{Wires: 4})
	fails(t, "BelowLadder", impl.BelowLadder, full, impl.Ladder{Wires: 3, Rungs: []int{0}})
	// The number of rungs of 1 << 62 ladders of 4 rungs would wrap around to 0.
	four := impl.Ladder{Wires: 3, Rungs: manyRungs(4)}
	for _, k := range []int{math.MinInt, -1, 31, 60, 61, 1 << 62, 1<<62 + 1, math.MaxInt} {
		fails(t, "RepeatLadder", impl.RepeatLadder, l, k)
		fails(t, "RepeatLadder", impl.RepeatLadder, four, k)
	}
	fails(t, "RepeatLadder", impl.RepeatLadder, bare, -1)
}
