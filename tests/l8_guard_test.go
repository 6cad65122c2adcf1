package tests

import (
	"math"
	"reflect"
	"slices"
	"strings"
	"testing"

	"loop.example/g01209/impl"
)

// This file tests promise 11 for chapter 8.

var mergeCalls = map[string]any{
	"TakeStart": impl.TakeStart, "KeepStarts": impl.KeepStarts, "PutWire": impl.PutWire, "BesideLadders": impl.BesideLadders,
	"DoubleLadder": impl.DoubleLadder, "MeetingTable": impl.MeetingTable, "PatternOf": impl.PatternOf, "CountPattern": impl.CountPattern,
	"PrizesOf": impl.PrizesOf, "StartsFor": impl.StartsFor, "AreSameFor": impl.AreSameFor, "SplitLadder": impl.SplitLadder,
	"IsSplit": impl.IsSplit, "ThroughWire": impl.ThroughWire, "StaysOn": impl.StaysOn, "RungsOn": impl.RungsOn,
}

// mergePools has ladders that can be split, put beside each other and doubled,
// and those of the greatest size.
func mergePools() map[reflect.Type][]reflect.Value {
	pools := map[reflect.Type][]reflect.Value{}
	pool(pools, append(validLadders(), invalidLadders()...)...)
	pool(pools, impl.Ladder{Wires: 4, Rungs: []int{0, 2}}, impl.Ladder{Wires: 4, Rungs: manyRungs(15)}, impl.Ladder{Wires: 4, Rungs: manyRungs(16)})
	pool(pools, impl.Ladder{Wires: 5, Rungs: []int{0, 3}}, impl.Ladder{Wires: 7, Rungs: make([]int, 60)}, impl.Ladder{Wires: 8, Rungs: bubbled(8)})
	pool(pools, append(validOrders(), invalidOrders()...)...)
	pool(pools, []int{0, 2}, []int{1}, []int{0, 1, 2, 3}, []int{6, 7}, []int{0, 7}, []int{0, 8}, []int{0, 1 << 32}, []int{math.MinInt, math.MaxInt})
	pool(pools, anyInts()...)
	pool(pools, "", "a", "z", "ab", "zz", "aba", "abcd", "aaaaa", "abcdefg", "abcdefgh", "abcdefghi", "A", "`", "{", "a\x00", "\xff", "é", "aB", "abcdefgH", strings.Repeat("a", 5000))
	return pools
}

func TestMergeCallsAcceptAllArguments(t *testing.T) {
	pools := mergePools()
	for name, f := range mergeCalls {
		sweep(t, name, f, pools)
	}
}

// checkMerged checks all calls with a ladder of at least 3 wires for which
// only the ladder can be at fault.
func checkMerged(t *testing.T, check func(*testing.T, string, any, ...any), l impl.Ladder) {
	t.Helper()
	prizes := strings.Repeat("a", min(max(l.Wires, 0), 9))
	check(t, "TakeStart", impl.TakeStart, l, 0)
	check(t, "KeepStarts", impl.KeepStarts, l, []int{0, 1})
	check(t, "MeetingTable", impl.MeetingTable, l)
	check(t, "PrizesOf", impl.PrizesOf, l, prizes)
	check(t, "StartsFor", impl.StartsFor, l, prizes, "a")
	check(t, "AreSameFor", impl.AreSameFor, l, impl.Ladder{Wires: l.Wires}, prizes)
	check(t, "AreSameFor", impl.AreSameFor, impl.Ladder{Wires: l.Wires}, l, prizes)
	check(t, "SplitLadder", impl.SplitLadder, l)
	check(t, "IsSplit", impl.IsSplit, l, 1)
	check(t, "ThroughWire", impl.ThroughWire, l, 0)
	check(t, "StaysOn", impl.StaysOn, l)
	check(t, "RungsOn", impl.RungsOn, l)
}

func TestNoLadderIsMerged(t *testing.T) {
	for _, l := range append(validLadders(), impl.Ladder{Wires: 8, Rungs: bubbled(8)}) {
		if l.Wires > 2 {
			checkMerged(t, succeeds, l)
		}
	}
	two := impl.Ladder{Wires: 2, Rungs: []int{0}}
	for _, l := range invalidLadders() {
		checkMerged(t, fails, l)
		fails(t, "PutWire", impl.PutWire, l, 0)
		fails(t, "PutWire", impl.PutWire, l, l.Wires)
		fails(t, "BesideLadders", impl.BesideLadders, l, two)
		fails(t, "BesideLadders", impl.BesideLadders, two, l)
		fails(t, "DoubleLadder", impl.DoubleLadder, l)
	}
	// What becomes of these would be ladders.
	for _, l := range []impl.Ladder{{Wires: 1}, {Wires: 0}, {Wires: 6, Rungs: []int{-1}}, {Wires: 2, Rungs: []int{1}}, {Wires: 3, Rungs: []int{-1, 0}}} {
		fails(t, "BesideLadders", impl.BesideLadders, two, l)
		fails(t, "BesideLadders", impl.BesideLadders, l, two)
		fails(t, "DoubleLadder", impl.DoubleLadder, l)
		fails(t, "PutWire", impl.PutWire, l, 0)
		fails(t, "PutWire", impl.PutWire, l, 1)
	}
	// The rung that is one too many, or none, is one of the start taken out.
	fails(t, "TakeStart", impl.TakeStart, impl.Ladder{Wires: 3, Rungs: make([]int, 61)}, 0)
	fails(t, "TakeStart", impl.TakeStart, impl.Ladder{Wires: 9, Rungs: []int{0}}, 0)
	fails(t, "TakeStart", impl.TakeStart, impl.Ladder{Wires: 4, Rungs: []int{3}}, 3)
	fails(t, "KeepStarts", impl.KeepStarts, impl.Ladder{Wires: 9}, []int{0, 1})
	fails(t, "KeepStarts", impl.KeepStarts, impl.Ladder{Wires: 3, Rungs: make([]int, 61)}, []int{1, 2})
}

func TestMergedWiresOutsideFail(t *testing.T) {
	for n := 2; n <= impl.MaxWires; n++ {
		l := impl.Ladder{Wires: n}
		far := append(farNumbers(), -n, -2, -1, n+1, n+2, 9, 10)
		for _, wire := range append([]int{n}, far...) {
			fails(t, "TakeStart", impl.TakeStart, l, wire)
			fails(t, "IsSplit", impl.IsSplit, l, wire)
			fails(t, "ThroughWire", impl.ThroughWire, l, wire)
		}
		for _, at := range far {
			fails(t, "PutWire", impl.PutWire, l, at)
		}
		fails(t, "IsSplit", impl.IsSplit, l, 0)
		for wire := range n {
			check := succeeds
			if n == 2 {
				check = fails
			}
			check(t, "TakeStart", impl.TakeStart, l, wire)
			succeeds(t, "ThroughWire", impl.ThroughWire, l, wire)
			if wire > 0 {
				succeeds(t, "IsSplit", impl.IsSplit, l, wire)
			}
		}
		for at := range n + 1 {
			check := succeeds
			if n == impl.MaxWires {
				check = fails
			}
			check(t, "PutWire", impl.PutWire, l, at)
		}
	}
}

// badLists returns lists that are not increasing, or have numbers outside of
// 0..n-1.
func badLists(n int) [][]int {
	bad := [][]int{{1, 0}, {0, 0}, {1, 1}, {0, 1, 1}, {0, n - 1, 1}, {n - 1, 0}, {-1, 0}, {-1, 0, 1}, {0, n}, {0, 1, n}, {n, n + 1}, make([]int, 5000)}
	for _, far := range farNumbers() {
		bad = append(bad, []int{0, far}, []int{far, 1}, []int{far, far})
	}
	return append(bad, othersOf(n+1, -1), othersOf(n+1, 0), othersOf(5000, -1))
}

func TestListsOfStarts(t *testing.T) {
	for n := 2; n <= impl.MaxWires; n++ {
		for _, l := range []impl.Ladder{{Wires: n}, {Wires: n, Rungs: make([]int, 60)}} {
			for _, starts := range append(badLists(n), nil, []int{}, []int{0}, []int{n - 1}, []int{n}, []int{-1}) {
				fails(t, "KeepStarts", impl.KeepStarts, l, starts)
			}
			succeeds(t, "KeepStarts", impl.KeepStarts, l, []int{0, n - 1})
			succeeds(t, "KeepStarts", impl.KeepStarts, l, othersOf(n, -1))
		}
	}
}

func TestListsOfPlaces(t *testing.T) {
	for n := 2; n <= impl.MaxWires; n++ {
		p := othersOf(n, -1)
		for _, places := range append(badLists(n), nil, []int{}, []int{n}, []int{-1}, []int{math.MinInt}, []int{math.MaxInt}) {
			fails(t, "PatternOf", impl.PatternOf, p, places)
		}
		succeeds(t, "PatternOf", impl.PatternOf, p, []int{0})
		succeeds(t, "PatternOf", impl.PatternOf, p, []int{n - 1})
		succeeds(t, "PatternOf", impl.PatternOf, p, p)
	}
	succeeds(t, "PatternOf", impl.PatternOf, []int{0}, []int{0})
}

func TestNoOrderHasPatterns(t *testing.T) {
	for _, p := range invalidOrders() {
		fails(t, "PatternOf", impl.PatternOf, p, []int{0})
		for _, q := range validOrders() {
			fails(t, "CountPattern", impl.CountPattern, p, q)
			fails(t, "CountPattern", impl.CountPattern, q, p)
		}
		fails(t, "CountPattern", impl.CountPattern, p, p)
	}
	for _, p := range validOrders() {
		succeeds(t, "PatternOf", impl.PatternOf, p, []int{0})
		for _, q := range validOrders() {
			succeeds(t, "CountPattern", impl.CountPattern, p, q)
		}
	}
}

// noLetters are texts of one byte, or nearly so, that are no small letter.
func noLetters() []string {
	return []string{"A", "Z", "`", "{", "0", " ", "\x00", "\x7f", "\xe1", "\xff", "-", "@"}
}

func TestPrizesThatAreNone(t *testing.T) {
	check := func(check func(*testing.T, string, any, ...any), l impl.Ladder, prizes string) {
		check(t, "PrizesOf", impl.PrizesOf, l, prizes)
		check(t, "StartsFor", impl.StartsFor, l, prizes, "a")
		check(t, "AreSameFor", impl.AreSameFor, l, l, prizes)
	}
	for n := 2; n <= impl.MaxWires; n++ {
		l := impl.Ladder{Wires: n, Rungs: []int{0}}
		for length := range 11 {
			if length == n {
				continue
			}
			check(fails, l, strings.Repeat("a", length))
		}
		check(fails, l, strings.Repeat("a", 5000))
		for _, prizes := range somePrizes(n) {
			check(succeeds, l, prizes)
			for _, other := range append(noLetters(), "", "aa", "é") {
				for at := range n {
					check(fails, l, prizes[:at]+other+prizes[at+1:])
				}
			}
		}
		// As many bytes, or as many letters that are not bytes, as wires.
		check(fails, l, strings.Repeat("é", n))
		check(fails, l, "é"+strings.Repeat("a", n-2))
	}
}

func TestSearchedPrizes(t *testing.T) {
	l := impl.Ladder{Wires: 3, Rungs: []int{0, 1}}
	for _, prize := range append(noLetters(), "", "ab", "aa", "abc", "é", "ａ", "a\x00", strings.Repeat("a", 5000)) {
		fails(t, "StartsFor", impl.StartsFor, l, "abc", prize)
	}
	for letter := 'a'; letter <= 'z'; letter++ {
		succeeds(t, "StartsFor", impl.StartsFor, l, "abc", string(letter))
	}
}

func TestDifferentWiresForPrizes(t *testing.T) {
	for n := 2; n <= impl.MaxWires; n++ {
		for m := 2; m <= impl.MaxWires; m++ {
			check := fails
			if n == m {
				check = succeeds
			}
			check(t, "AreSameFor", impl.AreSameFor, impl.Ladder{Wires: n}, impl.Ladder{Wires: m}, strings.Repeat("a", n))
			check(t, "AreSameFor", impl.AreSameFor, impl.Ladder{Wires: n}, impl.Ladder{Wires: m}, strings.Repeat("a", m))
		}
	}
}

// TestGreatestMerged takes ladders whose results have just MaxWires wires or
// MaxRungs rungs, and one more.
func TestGreatestMerged(t *testing.T) {
	ladder := func(wires, rungs int) impl.Ladder { return impl.Ladder{Wires: wires, Rungs: make([]int, rungs)} }
	succeeds(t, "BesideLadders", impl.BesideLadders, ladder(4, 30), ladder(4, 30))
	succeeds(t, "BesideLadders", impl.BesideLadders, ladder(2, 60), ladder(6, 0))
	succeeds(t, "BesideLadders", impl.BesideLadders, ladder(6, 0), ladder(2, 60))
	fails(t, "BesideLadders", impl.BesideLadders, ladder(4, 30), ladder(4, 31))
	fails(t, "BesideLadders", impl.BesideLadders, ladder(2, 60), ladder(2, 1))
	fails(t, "BesideLadders", impl.BesideLadders, ladder(2, 60), ladder(2, 60))
	fails(t, "BesideLadders", impl.BesideLadders, ladder(4, 0), ladder(5, 0))
	fails(t, "BesideLadders", impl.BesideLadders, ladder(8, 0), ladder(8, 0))
	succeeds(t, "DoubleLadder", impl.DoubleLadder, ladder(4, 15))
	fails(t, "DoubleLadder", impl.DoubleLadder, ladder(4, 16))
	fails(t, "DoubleLadder", impl.DoubleLadder, ladder(2, 60))
	fails(t, "DoubleLadder", impl.DoubleLadder, ladder(5, 0))
	fails(t, "DoubleLadder", impl.DoubleLadder, ladder(8, 60))
	succeeds(t, "PutWire", impl.PutWire, ladder(7, 60), 0)
	succeeds(t, "PutWire", impl.PutWire, ladder(7, 60), 7)
	fails(t, "PutWire", impl.PutWire, ladder(7, 60), 1)
	fails(t, "PutWire", impl.PutWire, ladder(8, 60), 0)
	fails(t, "PutWire", impl.PutWire, ladder(8, 60), 8)
	great := ladder(8, 60)
	for i := range great.Rungs {
		great.Rungs[i] = i % 7
	}
	checkMerged(t, succeeds, great)
	for start := range great.Wires {
		succeeds(t, "TakeStart", impl.TakeStart, great, start)
		succeeds(t, "KeepStarts", impl.KeepStarts, great, othersOf(8, start))
	}
}

// TestRungInTheWay has the only rung in the way of a wire at each index, so
// that nothing is left of rungs moved before it.
func TestRungInTheWay(t *testing.T) {
	for n := 2; n < impl.MaxWires; n++ {
		for rung := range n - 1 {
			others := make([]int, 6)
			for i := range others {
				others[i] = []int{max(rung-1, 0), min(rung+1, n-2)}[i%2]
			}
			others = slices.DeleteFunc(others, func(other int) bool { return other == rung })
			succeeds(t, "PutWire", impl.PutWire, impl.Ladder{Wires: n, Rungs: others}, rung+1)
			for at := range len(others) + 1 {
				fails(t, "PutWire", impl.PutWire, impl.Ladder{Wires: n, Rungs: slices.Insert(slices.Clone(others), at, rung)}, rung+1)
			}
		}
	}
}
