package tests

import (
	"math"
	"reflect"
	"testing"

	"loop.example/g01209/impl"
)

// This file tests promise 11 for chapter 6.

var sortCalls = map[string]any{
	"SortedBy": impl.SortedBy, "ExchangesOf": impl.ExchangesOf, "IsSorting": impl.IsSorting, "FirstUnsorted": impl.FirstUnsorted,
	"CountSorted": impl.CountSorted, "CountBitsSorted": impl.CountBitsSorted, "FirstBitsUnsorted": impl.FirstBitsUnsorted,
	"IdleRungs": impl.IdleRungs, "DropIdle": impl.DropIdle, "BubbleLadder": impl.BubbleLadder, "OddEvenLadder": impl.OddEvenLadder,
	"LeastSorting": impl.LeastSorting, "WorstOrder": impl.WorstOrder, "PassesOf": impl.PassesOf, "SortsFirst": impl.SortsFirst,
	"LeastBeginning": impl.LeastBeginning,
}

// farNumbers are numbers far outside of what any call of chapter 6 takes.
func farNumbers() []int {
	return []int{math.MinInt, math.MinInt + 1, -1 << 32, -60, -11, 61, 100, 1 << 32, 1<<32 + 2, 1 << 62, math.MaxInt - 1, math.MaxInt}
}

// checkCompared checks all calls with a ladder whose wires may be many.
func checkCompared(t *testing.T, check func(*testing.T, string, any, ...any), l impl.Ladder) {
	t.Helper()
	values := []int{5, -5, math.MaxInt, math.MinInt, 5, 5, 0, 1, 9}[:min(max(l.Wires, 0), 9)]
	check(t, "SortedBy", impl.SortedBy, l, values)
	check(t, "ExchangesOf", impl.ExchangesOf, l, values)
	check(t, "IsSorting", impl.IsSorting, l)
	check(t, "CountBitsSorted", impl.CountBitsSorted, l)
	check(t, "IdleRungs", impl.IdleRungs, l)
	check(t, "DropIdle", impl.DropIdle, l)
	check(t, "SortsFirst", impl.SortsFirst, l, 0)
}

// checkTried checks the calls for which all orders are compared.
func checkTried(t *testing.T, check func(*testing.T, string, any, ...any), l impl.Ladder) {
	t.Helper()
	check(t, "CountSorted", impl.CountSorted, l)
	check(t, "WorstOrder", impl.WorstOrder, l)
}

func TestSortCallsAcceptAllArguments(t *testing.T) {
	pools := ladderPools()
	pool(pools, []int{math.MaxInt, math.MinInt}, []int{1, 1, 1}, []int{math.MaxInt, 0, math.MaxInt}, make([]int, 8), make([]int, 100), make([]int, 101))
	pool(pools, impl.Ladder{Wires: 3, Rungs: []int{0, 0, 1}}, impl.Ladder{Wires: 6, Rungs: bubbled(6)}, impl.Ladder{Wires: 7, Rungs: bubbled(7)}, impl.Ladder{Wires: 8, Rungs: bubbled(8)})
	pool(pools, 10, 11)
	for name, f := range sortCalls {
		sweep(t, name, f, pools)
	}
}

func TestNoLadderIsCompared(t *testing.T) {
	for _, l := range validLadders() {
		checkCompared(t, succeeds, l)
	}
	for _, l := range invalidLadders() {
		checkCompared(t, fails, l)
		checkTried(t, fails, l)
		fails(t, "FirstUnsorted", impl.FirstUnsorted, l)
		fails(t, "FirstBitsUnsorted", impl.FirstBitsUnsorted, l)
		fails(t, "LeastBeginning", impl.LeastBeginning, l)
		for _, values := range append(validOrders(), invalidOrders()...) {
			fails(t, "SortedBy", impl.SortedBy, l, values)
			fails(t, "ExchangesOf", impl.ExchangesOf, l, values)
		}
	}
	// These sort before the rung that no ladder has.
	for _, rungs := range [][]int{{0, 1, 0, 2}, {0, 1, 0, -1}, {0, 1, 0, math.MinInt}, {0, 1, 0, math.MaxInt}, append([]int{0, 1, 0}, manyRungs(58)...)} {
		l := impl.Ladder{Wires: 3, Rungs: rungs}
		fails(t, "IsSorting", impl.IsSorting, l)
		fails(t, "LeastBeginning", impl.LeastBeginning, l)
		fails(t, "DropIdle", impl.DropIdle, l)
	}
}

func TestTooManyWiresForOrders(t *testing.T) {
	for n := 2; n <= impl.MaxWires; n++ {
		check := succeeds
		if n > 6 {
			check = fails
		}
		for _, l := range []impl.Ladder{{Wires: n}, {Wires: n, Rungs: []int{0}}, {Wires: n, Rungs: bubbled(n)}, {Wires: n, Rungs: make([]int, 60)}} {
			checkTried(t, check, l)
		}
		check(t, "FirstUnsorted", impl.FirstUnsorted, impl.Ladder{Wires: n})
		succeeds(t, "FirstBitsUnsorted", impl.FirstBitsUnsorted, impl.Ladder{Wires: n})
		sorting := impl.Ladder{Wires: n, Rungs: bubbled(n)}
		fails(t, "FirstUnsorted", impl.FirstUnsorted, sorting)
		fails(t, "FirstBitsUnsorted", impl.FirstBitsUnsorted, sorting)
		succeeds(t, "LeastBeginning", impl.LeastBeginning, sorting)
		fails(t, "LeastBeginning", impl.LeastBeginning, impl.Ladder{Wires: n})
		fails(t, "LeastBeginning", impl.LeastBeginning, impl.Ladder{Wires: n, Rungs: bubbled(n)[1:]})
	}
}

func TestAsManyValuesAsWires(t *testing.T) {
	for _, l := range validLadders() {
		for length := range 12 {
			check := fails
			if length == l.Wires {
				check = succeeds
			}
			values := make([]int, length)
			check(t, "SortedBy", impl.SortedBy, l, values)
			check(t, "ExchangesOf", impl.ExchangesOf, l, values)
			for i := range values {
				values[i] = []int{math.MaxInt, math.MinInt}[i%2]
			}
			check(t, "SortedBy", impl.SortedBy, l, values)
			check(t, "ExchangesOf", impl.ExchangesOf, l, values)
		}
		fails(t, "SortedBy", impl.SortedBy, l, []int(nil))
		fails(t, "ExchangesOf", impl.ExchangesOf, l, []int(nil))
		fails(t, "SortedBy", impl.SortedBy, l, make([]int, 5000))
		fails(t, "ExchangesOf", impl.ExchangesOf, l, make([]int, 5000))
	}
}

func TestNumbersOfMadeLadders(t *testing.T) {
	for _, n := range append(farNumbers(), -2, -1, 0, 1, 2, 3, 4, 5, 6, 7, 8, 9, 10) {
		check := fails
		if n >= 2 && n <= 8 {
			check = succeeds
		}
		check(t, "BubbleLadder", impl.BubbleLadder, n)
		check(t, "LeastSorting", impl.LeastSorting, n)
		for levels := 0; levels <= 10; levels++ {
			check(t, "OddEvenLadder", impl.OddEvenLadder, n, levels)
		}
		for _, levels := range append(farNumbers(), -2, -1, 11, 12, 60) {
			fails(t, "OddEvenLadder", impl.OddEvenLadder, n, levels)
		}
	}
}

func TestFirstWiresOutsideFail(t *testing.T) {
	for _, l := range validLadders() {
		for k := 0; k <= l.Wires; k++ {
			succeeds(t, "SortsFirst", impl.SortsFirst, l, k)
		}
		for _, k := range append(farNumbers(), -l.Wires, -2, -1, l.Wires+1, l.Wires+2, 9, 10) {
			fails(t, "SortsFirst", impl.SortsFirst, l, k)
		}
	}
	for _, l := range invalidLadders() {
		for _, k := range append(farNumbers(), 0, 1, 2, 3) {
			fails(t, "SortsFirst", impl.SortsFirst, l, k)
		}
	}
}

func TestListsTooLongToPass(t *testing.T) {
	for _, length := range []int{101, 102, 1000, 5000} {
		fails(t, "PassesOf", impl.PassesOf, make([]int, length))
		falling := make([]int, length)
		for i := range falling {
			falling[i] = math.MaxInt - i
		}
		fails(t, "PassesOf", impl.PassesOf, falling)
		succeeds(t, "PassesOf", impl.PassesOf, falling[:100:100])
	}
	for length := range 101 {
		succeeds(t, "PassesOf", impl.PassesOf, manyRungs(length))
	}
}

// TestSortCallsAreRepeated calls each function often with the same arguments:
// which of two wires is chosen first must not show.
func TestSortCallsAreRepeated(t *testing.T) {
	l := impl.Ladder{Wires: 5, Rungs: []int{0, 3, 2, 1, 1, 0, 2, 3, 1, 0}}
	for name, f := range sortCalls {
		kind := reflect.TypeOf(f)
		given := map[reflect.Type]any{reflect.TypeFor[impl.Ladder](): l, reflect.TypeFor[[]int](): []int{3, 1, 3, 0, 1}, reflect.TypeFor[int](): 4}
		args := make([]any, kind.NumIn())
		for i := range args {
			args[i] = given[kind.In(i)]
		}
		first := guarded(t, name, f, valuesOf(args))
		for range 50 {
			if again := guarded(t, name, f, valuesOf(args)); !allAlike(first, again) {
				t.Fatal(name, shown(first), shown(again))
			}
		}
	}
}
