package tests

import (
	"math"
	"reflect"
	"slices"
	"testing"

	"loop.example/g01209/impl"
)

// This file tests promise 11 for chapter 4.

var chanceCalls = map[string]any{
	"CountLadders": impl.CountLadders, "CountEnds": impl.CountEnds, "ChanceOf": impl.ChanceOf, "ChancesFrom": impl.ChancesFrom, "GapOf": impl.GapOf,
	"CountForOrder": impl.CountForOrder, "ChanceOfOrder": impl.ChanceOfOrder, "CountOrdersMade": impl.CountOrdersMade,
	"LikeliestOrder": impl.LikeliestOrder, "MeanMeetings": impl.MeanMeetings, "MeanInversions": impl.MeanInversions, "MeanAtHome": impl.MeanAtHome,
	"FirstAll": impl.FirstAll,
}

// toldCalls are those where results are told by orders.
var toldCalls = []string{"CountForOrder", "ChanceOfOrder", "CountOrdersMade", "LikeliestOrder"}

// chanceArgs returns arguments of a call with these n and k that are valid if
// they are.
func chanceArgs(name string, n, k int) []any {
	switch name {
	case "CountEnds", "ChanceOf", "MeanMeetings":
		return []any{n, k, 0, 1}
	case "ChancesFrom":
		return []any{n, k, 1}
	case "CountForOrder", "ChanceOfOrder":
		p := []int{1, 0, 2, 3, 4, 5, 6, 7}
		return []any{n, k, p[:min(max(n, 1), 8)]}
	case "FirstAll":
		return []any{n}
	}
	return []any{n, k}
}

// isChanceCall reports whether a call with chanceArgs succeeds.
func isChanceCall(name string, n, k int) bool {
	switch {
	case name == "FirstAll":
		return n >= 2 && n <= 5
	case slices.Contains(toldCalls, name) && n > 5:
		return false
	}
	return n >= 2 && n <= 6 && k >= 0 && k <= 20
}

func TestChanceCallsAcceptAllArguments(t *testing.T) {
	pools := map[reflect.Type][]reflect.Value{}
	pool(pools, math.MinInt, -1, 0, 1, 2, 3, 5, 6, 7, 20, 21, math.MaxInt)
	pool(pools, append(validOrders(), invalidOrders()...)...)
	pool(pools, []int{4, 3, 2, 1, 0}, []int{0, 2, 1, 5, 4, 3})
	for name, f := range chanceCalls {
		sweep(t, name, f, pools)
	}
}

func TestNumbersOfWiresAndRungs(t *testing.T) {
	numbers := []int{math.MinInt, math.MinInt + 1, -1 << 32, -20, -2, -1, 0, 1, 2, 3, 4, 5, 6, 7, 8, 9, 19, 20, 21, 22, 60, 1 << 32, 1<<32 + 3, math.MaxInt - 1, math.MaxInt}
	for name, f := range chanceCalls {
		for _, n := range numbers {
			for _, k := range numbers {
				check := fails
				if isChanceCall(name, n, k) {
					check = succeeds
				}
				check(t, name, f, chanceArgs(name, n, k)...)
			}
		}
	}
}

func TestWiresOutsideFail(t *testing.T) {
	for n := 2; n <= 6; n++ {
		for _, wire := range []int{math.MinInt, -n, -1, n, n + 1, 6, 7, 1 << 32, math.MaxInt} {
			fails(t, "ChancesFrom", impl.ChancesFrom, n, 2, wire)
			for _, other := range []int{0, 1, wire} {
				for _, name := range []string{"CountEnds", "ChanceOf", "MeanMeetings"} {
					fails(t, name, chanceCalls[name], n, 2, wire, other)
					fails(t, name, chanceCalls[name], n, 2, other, wire)
				}
			}
		}
		for wire := range n {
			succeeds(t, "ChancesFrom", impl.ChancesFrom, n, 2, wire)
			succeeds(t, "CountEnds", impl.CountEnds, n, 2, wire, wire)
			succeeds(t, "ChanceOf", impl.ChanceOf, n, 2, wire, wire)
			fails(t, "MeanMeetings", impl.MeanMeetings, n, 2, wire, wire)
		}
	}
}

func TestOrdersThatAreNoResultFail(t *testing.T) {
	orders := append(append(validOrders(), invalidOrders()...), []int{4, 3, 2, 1, 0}, []int{2, 0, 1, 3}, []int{0, 2, 1, 5, 4, 3},
		[]int{0, 1, 2, -1}, []int{0, 1, -1}, []int{0, 1, 2, 3, -1}, []int{0, 1, 3}, []int{1, 1, 0}, []int{3, 2, 1, 0, -1, -1})
	for _, p := range orders {
		for n := 1; n <= 7; n++ {
			check := fails
			if slices.Contains([]int{2, 3, 4, 5}, n) && len(p) == n && impl.IsOrder(p) {
				check = succeeds
			}
			check(t, "CountForOrder", impl.CountForOrder, n, 3, p)
			check(t, "ChanceOfOrder", impl.ChanceOfOrder, n, 3, p)
		}
	}
}
