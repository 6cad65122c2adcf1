package tests

import (
	"math"
	"reflect"
	"testing"

	"loop.example/g01209/impl"
)

// This file tests promise 11 for chapter 5.

var poleCalls = map[string]any{
	"PoleEnd": impl.PoleEnd, "PoleWay": impl.PoleWay, "PoleResult": impl.PoleResult, "ThenTurned": impl.ThenTurned, "BackTurned": impl.BackTurned,
	"PlaceOf": impl.PlaceOf, "PoleInversions": impl.PoleInversions, "IsLeastPole": impl.IsLeastPole, "PoleDescents": impl.PoleDescents,
	"LeastPole": impl.LeastPole, "BelowPole": impl.BelowPole, "TurnPole": impl.TurnPole, "SpinPole": impl.SpinPole, "OpenPole": impl.OpenPole,
	"ClosePole": impl.ClosePole, "PolePower": impl.PolePower, "PoleText": impl.PoleText,
}

// windingRungs returns k rungs of n wires over which one goes on and on.
func windingRungs(n, k int) []int {
	rungs := make([]int, k)
	for i := range rungs {
		rungs[i] = i % n
	}
	return rungs
}

func validPoles() []impl.Pole {
	return []impl.Pole{
		{Wires: 3}, {Wires: 3, Rungs: []int{}}, {Wires: 8}, {Wires: 3, Rungs: []int{2}}, {Wires: 3, Rungs: []int{0, 1, 2}}, {Wires: 3, Rungs: []int{0, 1}},
		{Wires: 4, Rungs: []int{3, 3, 0}}, {Wires: 8, Rungs: []int{0, 7, 3}}, {Wires: 3, Rungs: manyRungs(59)}, {Wires: 3, Rungs: manyRungs(60)},
		{Wires: 3, Rungs: windingRungs(3, 60)}, {Wires: 8, Rungs: windingRungs(8, 60)}, {Wires: 8, Rungs: make([]int, 60)},
	}
}

func invalidPoles() []impl.Pole {
	return []impl.Pole{
		{}, {Rungs: []int{0}}, {Wires: -1}, {Wires: 1}, {Wires: 2}, {Wires: 2, Rungs: []int{0}}, {Wires: 2, Rungs: []int{1}}, {Wires: 9},
		{Wires: 9, Rungs: []int{0, 8}}, {Wires: math.MinInt, Rungs: []int{0}}, {Wires: math.MaxInt, Rungs: []int{0}}, {Wires: math.MaxInt},
		{Wires: 3, Rungs: []int{0, 3}}, {Wires: 8, Rungs: []int{8}}, {Wires: 3, Rungs: []int{-1}}, {Wires: 3, Rungs: []int{0, math.MinInt}},
		{Wires: 3, Rungs: []int{math.MaxInt, 0}}, {Wires: 3, Rungs: manyRungs(61)}, {Wires: 8, Rungs: windingRungs(8, 61)},
		{Wires: 8, Rungs: make([]int, 5000)},
	}
}

func validTurned() []impl.Turned {
	return []impl.Turned{
		unturned(3), unturned(8), {Ends: []int{2, 1, 0}, Winds: []int{-1, 0, 1}}, {Ends: []int{1, 0, 2}, Winds: []int{0, 0, 0}},
		{Ends: []int{0, 1, 2}, Winds: []int{20, -20, 0}}, {Ends: []int{1, 2, 0}, Winds: []int{-20, 20, 0}}, {Ends: []int{2, 0, 1}, Winds: []int{-10, -10, 20}},
		{Ends: []int{3, 2, 1, 0}, Winds: []int{20, 20, -20, -20}}, {Ends: []int{0, 1, 3, 2}, Winds: []int{0, 0, 19, -19}},
		{Ends: []int{7, 6, 5, 4, 3, 2, 1, 0}, Winds: []int{20, 20, 20, 20, -20, -20, -20, -20}},
		{Ends: []int{1, 2, 0, 4, 5, 6, 7, 3}, Winds: []int{1, -1, 0, 0, 0, 0, 0, 0}},
	}
}

func invalidTurned() []impl.Turned {
	invalid := []impl.Turned{
		{}, {Ends: []int{0}, Winds: []int{0}}, {Ends: []int{0, 1}, Winds: []int{0, 0}}, {Ends: []int{1, 0}, Winds: []int{1, -1}}, {Winds: []int{0, 0, 0}},
		{Ends: []int{0, 1, 2}}, {Ends: []int{0, 1, 2}, Winds: []int{}}, {Ends: []int{0, 1, 2}, Winds: []int{0, 0}}, {Ends: []int{0, 1, 2}, Winds: []int{0, 0, 0, 0}},
		{Ends: []int{0, 1, 2, 3}, Winds: []int{0, 0, 0}}, {Ends: []int{0, 1, 2}, Winds: []int{1, 0, 0}}, {Ends: []int{0, 1, 2}, Winds: []int{0, 0, -1}},
		{Ends: []int{0, 1, 2}, Winds: []int{21, -20, -1}}, {Ends: []int{0, 1, 2}, Winds: []int{1, 20, -21}}, {Ends: []int{0, 1, 2}, Winds: []int{21, -21, 0}},
		{Ends: []int{2, 1, 0, 3}, Winds: []int{20, 20, -20, -21}}, {Ends: []int{0, 1, 2}, Winds: []int{math.MinInt, math.MinInt, 0}},
		{Ends: []int{0, 1, 2}, Winds: []int{math.MaxInt, -math.MaxInt, 0}}, {Ends: []int{0, 1, 2}, Winds: []int{math.MaxInt, 1, math.MinInt}},
		{Ends: make([]int, 9), Winds: make([]int, 9)}, unturned(9), unturned(2), unturned(5000),
	}
	for _, p := range invalidOrders() {
		invalid = append(invalid, impl.Turned{Ends: p, Winds: make([]int, len(p))})
	}
	return invalid
}

func polePools() map[reflect.Type][]reflect.Value {
	pools := ladderPools()
	pool(pools, append(validPoles(), invalidPoles()...)...)
	pool(pools, append(validTurned(), invalidTurned()...)...)
	pool(pools, -1001, -1000, -999, 999, 1000, 1001)
	return pools
}

func TestPoleCallsAcceptAllArguments(t *testing.T) {
	pools := polePools()
	for name, f := range poleCalls {
		sweep(t, name, f, pools)
	}
	sweep(t, "IsPole", impl.IsPole, pools)
	sweep(t, "IsTurned", impl.IsTurned, pools)
}

func TestKindsOfChapter5(t *testing.T) {
	for _, l := range validPoles() {
		succeeds(t, "IsPole", impl.IsPole, l)
	}
	for _, l := range invalidPoles() {
		fails(t, "IsPole", impl.IsPole, l)
	}
	for _, turned := range validTurned() {
		succeeds(t, "IsTurned", impl.IsTurned, turned)
	}
	for _, turned := range invalidTurned() {
		fails(t, "IsTurned", impl.IsTurned, turned)
	}
}

func TestIsTurnedOfAllSmallWinds(t *testing.T) {
	for a := -22; a <= 22; a++ {
		for b := -22; b <= 22; b++ {
			for c := -22; c <= 22; c++ {
				check := fails
				if a+b+c == 0 && max(a, b, c) <= 20 && min(a, b, c) >= -20 {
					check = succeeds
				} else if a+b+c > 1 || a+b+c < -1 {
					continue
				}
				check(t, "IsTurned", impl.IsTurned, impl.Turned{Ends: []int{1, 2, 0}, Winds: []int{a, b, c}})
			}
		}
	}
}

func TestNoPoleFails(t *testing.T) {
	checkAll := func(check func(*testing.T, string, any, ...any), l impl.Pole) {
		check(t, "PoleEnd", impl.PoleEnd, l, 0)
		check(t, "PoleWay", impl.PoleWay, l, 0)
		check(t, "PoleResult", impl.PoleResult, l)
		check(t, "IsLeastPole", impl.IsLeastPole, l)
		check(t, "BelowPole", impl.BelowPole, l, impl.Pole{Wires: l.Wires})
		check(t, "BelowPole", impl.BelowPole, impl.Pole{Wires: l.Wires}, l)
		check(t, "TurnPole", impl.TurnPole, l)
		check(t, "SpinPole", impl.SpinPole, l, 0)
		check(t, "PoleText", impl.PoleText, l)
	}
	for _, l := range validPoles() {
		checkAll(succeeds, l)
	}
	for _, l := range invalidPoles() {
		checkAll(fails, l)
		fails(t, "BelowPole", impl.BelowPole, l, l)
		fails(t, "OpenPole", impl.OpenPole, l)
		fails(t, "SpinPole", impl.SpinPole, l, 1)
	}
	// These poles have a rung that no ladder has.
	for _, l := range []impl.Pole{{Wires: 3, Rungs: []int{2}}, {Wires: 3, Rungs: []int{0, 1, 2}}, {Wires: 8, Rungs: []int{7, 0}}, {Wires: 4, Rungs: []int{0, 3, 1}}} {
		fails(t, "OpenPole", impl.OpenPole, l)
	}
	succeeds(t, "OpenPole", impl.OpenPole, impl.Pole{Wires: 8, Rungs: []int{6, 0, 3}})
	succeeds(t, "OpenPole", impl.OpenPole, impl.Pole{Wires: 3, Rungs: manyRungs(60)})
}

func TestLaddersThatCloseToNoPole(t *testing.T) {
	for _, l := range validLadders() {
		if l.Wires < 3 {
			fails(t, "ClosePole", impl.ClosePole, l)
		} else {
			succeeds(t, "ClosePole", impl.ClosePole, l)
		}
	}
	// The rung 2 of three wires is one of a pole, but of no ladder.
	for _, l := range append(invalidLadders(), impl.Ladder{Wires: 3, Rungs: []int{2}}, impl.Ladder{Wires: 8, Rungs: []int{7}}) {
		fails(t, "ClosePole", impl.ClosePole, l)
	}
}

func TestNoTurnedFails(t *testing.T) {
	checkAll := func(check func(*testing.T, string, any, ...any), turned impl.Turned) {
		check(t, "BackTurned", impl.BackTurned, turned)
		check(t, "PlaceOf", impl.PlaceOf, turned, 0)
		check(t, "PoleInversions", impl.PoleInversions, turned)
		check(t, "PoleDescents", impl.PoleDescents, turned)
		check(t, "ThenTurned", impl.ThenTurned, turned, unturned(max(3, len(turned.Ends))))
		check(t, "ThenTurned", impl.ThenTurned, unturned(max(3, len(turned.Ends))), turned)
	}
	for _, turned := range validTurned() {
		checkAll(succeeds, turned)
	}
	for _, turned := range invalidTurned() {
		checkAll(fails, turned)
		fails(t, "ThenTurned", impl.ThenTurned, turned, turned)
		fails(t, "LeastPole", impl.LeastPole, turned)
		fails(t, "PolePower", impl.PolePower, turned)
	}
	fails(t, "ThenTurned", impl.ThenTurned, unturned(3), unturned(4))
	fails(t, "ThenTurned", impl.ThenTurned, unturned(8), unturned(7))
}

func TestPoleNumbersOutOfRangeFail(t *testing.T) {
	for _, l := range validPoles() {
		for _, n := range []int{math.MinInt, -l.Wires, -1, l.Wires, l.Wires + 1, 60, 1 << 32, math.MaxInt} {
			fails(t, "PoleEnd", impl.PoleEnd, l, n)
			fails(t, "PoleWay", impl.PoleWay, l, n)
			fails(t, "SpinPole", impl.SpinPole, l, n)
		}
		succeeds(t, "PoleEnd", impl.PoleEnd, l, l.Wires-1)
		succeeds(t, "PoleWay", impl.PoleWay, l, l.Wires-1)
		succeeds(t, "SpinPole", impl.SpinPole, l, l.Wires-1)
		fails(t, "BelowPole", impl.BelowPole, l, impl.Pole{Wires: l.Wires%8 + 1})
		fails(t, "BelowPole", impl.BelowPole, l, impl.Pole{Wires: l.Wires, Rungs: make([]int, 61-len(l.Rungs))})
		succeeds(t, "BelowPole", impl.BelowPole, l, impl.Pole{Wires: l.Wires, Rungs: make([]int, 60-len(l.Rungs))})
	}
	for _, turned := range validTurned() {
		for _, i := range []int{math.MinInt, math.MinInt + 1, -1 << 32, -1002, -1001, 1001, 1002, 1 << 32, math.MaxInt} {
			fails(t, "PlaceOf", impl.PlaceOf, turned, i)
		}
		for _, i := range []int{-1000, -999, -1, 0, 1, 999, 1000} {
			succeeds(t, "PlaceOf", impl.PlaceOf, turned, i)
		}
	}
}

func TestWindsBeyondTheirLimitFail(t *testing.T) {
	one := impl.Turned{Ends: []int{0, 1, 2}, Winds: []int{1, -1, 0}}
	most := impl.Turned{Ends: []int{0, 1, 2}, Winds: []int{20, -20, 0}}
	nearly := impl.Turned{Ends: []int{0, 1, 2}, Winds: []int{19, -19, 0}}
	fails(t, "ThenTurned", impl.ThenTurned, one, most)
	fails(t, "ThenTurned", impl.ThenTurned, most, one)
	fails(t, "ThenTurned", impl.ThenTurned, most, most)
	succeeds(t, "ThenTurned", impl.ThenTurned, one, nearly)
	succeeds(t, "ThenTurned", impl.ThenTurned, nearly, one)
	// Only one of the two goes beyond the limit, and only the other way.
	low := impl.Turned{Ends: []int{0, 1, 2}, Winds: []int{-20, 10, 10}}
	fails(t, "ThenTurned", impl.ThenTurned, low, impl.Turned{Ends: []int{0, 1, 2}, Winds: []int{-1, 1, 0}})
	succeeds(t, "ThenTurned", impl.ThenTurned, low, impl.Turned{Ends: []int{0, 1, 2}, Winds: []int{0, -1, 1}})
	for _, far := range []impl.Turned{most, nearly} {
		fails(t, "LeastPole", impl.LeastPole, far)
		fails(t, "PolePower", impl.PolePower, far)
		succeeds(t, "PoleInversions", impl.PoleInversions, far)
	}
	// This one has the greatest winds and 60 inversions.
	succeeds(t, "LeastPole", impl.LeastPole, low)
}
