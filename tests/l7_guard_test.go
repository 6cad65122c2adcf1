package tests

import (
	"math"
	"reflect"
	"slices"
	"testing"

	"loop.example/g01209/impl"
)

// This file tests promise 11 for chapter 7.

var gameCalls = map[string]any{
	"IsTaking": impl.IsTaking, "TakeWinner": impl.TakeWinner, "GoodTakes": impl.GoodTakes, "TakeLength": impl.TakeLength, "TakeLine": impl.TakeLine,
	"PlayTakes": impl.PlayTakes, "CountHomeSets": impl.CountHomeSets, "LeastTakes": impl.LeastTakes, "PlaceWinner": impl.PlaceWinner,
	"GoodPlaces": impl.GoodPlaces, "PlacesWon": impl.PlacesWon, "LastWins": impl.LastWins, "LastMoves": impl.LastMoves,
}

// greatTakings returns games of MaxTaken rungs, of all numbers of wires with
// which these leave somebody away from home.
func greatTakings() []impl.Ladder {
	var great []impl.Ladder
	for n := 3; n <= impl.MaxWires; n++ {
		rungs := make([]int, impl.MaxTaken)
		rungs[11] = 1
		great = append(great, impl.Ladder{Wires: n, Rungs: rungs})
	}
	return append(great, impl.Ladder{Wires: 8, Rungs: []int{0, 1, 2, 3, 4, 5, 6, 0, 1, 2, 3, 4}}, impl.Ladder{Wires: 8, Rungs: []int{6, 6, 5, 4, 3, 2, 1, 0, 0, 1, 2, 3}})
}

func validTakings() []impl.Ladder {
	return append(greatTakings(), []impl.Ladder{
		{Wires: 2, Rungs: []int{0}}, {Wires: 2, Rungs: make([]int, 11)}, {Wires: 3, Rungs: []int{0, 1}}, {Wires: 3, Rungs: []int{1}},
		{Wires: 8, Rungs: []int{6}}, {Wires: 4, Rungs: []int{2, 0, 1, 0}}, {Wires: 5, Rungs: []int{0, 0, 0, 3, 3}}, {Wires: 3, Rungs: manyRungs(11)},
	}...)
}

// invalidTakings returns ladders on which everybody is at home, ladders of too
// many rungs, and what is no ladder.
func invalidTakings() []impl.Ladder {
	invalid := append(invalidLadders(), []impl.Ladder{
		{Wires: 2}, {Wires: 8}, {Wires: 8, Rungs: []int{}}, {Wires: 2, Rungs: make([]int, 2)}, {Wires: 2, Rungs: make([]int, 12)},
		{Wires: 8, Rungs: make([]int, 12)}, {Wires: 3, Rungs: manyRungs(6)}, {Wires: 3, Rungs: manyRungs(12)}, {Wires: 4, Rungs: []int{0, 2, 2, 0}},
		{Wires: 2, Rungs: make([]int, 13)}, {Wires: 3, Rungs: manyRungs(13)}, {Wires: 3, Rungs: manyRungs(14)}, {Wires: 3, Rungs: manyRungs(59)},
		{Wires: 3, Rungs: manyRungs(58)}, {Wires: 2, Rungs: make([]int, 60)}, {Wires: 8, Rungs: bubbled(8)},
	}...)
	for _, l := range greatTakings() {
		invalid = append(invalid, impl.Ladder{Wires: l.Wires, Rungs: append(slices.Clone(l.Rungs), 0)})
	}
	return invalid
}

func validLastings() []impl.Ladder {
	var valid []impl.Ladder
	for n := 2; n <= impl.MaxWires; n++ {
		longest := bubbled(n)
		for k := range len(longest) + 1 {
			valid = append(valid, impl.Ladder{Wires: n, Rungs: longest[:k]})
		}
	}
	return valid
}

func invalidLastings() []impl.Ladder {
	invalid := append(invalidLadders(), []impl.Ladder{
		{Wires: 2, Rungs: []int{0, 0}}, {Wires: 3, Rungs: []int{1, 1, 1}}, {Wires: 3, Rungs: manyRungs(4)}, {Wires: 3, Rungs: manyRungs(60)},
		{Wires: 8, Rungs: []int{0, 2, 4, 6, 0}}, {Wires: 8, Rungs: make([]int, 60)}, {Wires: 4, Rungs: []int{0, 1, 0, 1}},
	}...)
	for n := 2; n <= impl.MaxWires; n++ {
		for rung := range n - 1 {
			invalid = append(invalid, impl.Ladder{Wires: n, Rungs: append(bubbled(n), rung)})
		}
	}
	return invalid
}

func gamePools() map[reflect.Type][]reflect.Value {
	pools := map[reflect.Type][]reflect.Value{}
	pool(pools, append(validTakings(), invalidTakings()...)...)
	pool(pools, append(validLadders(), invalidLastings()...)...)
	pool(pools, append(validOrders(), invalidOrders()...)...)
	pool(pools, []int{11}, []int{11, 0}, []int{12}, []int{0, 1, 2, 3, 4, 5, 6, 7, 8, 9, 10, 11}, []int{64}, []int{1 << 32})
	pool(pools, math.MinInt, -1, 0, 1, 2, 7, 8, 9, 1<<32, 1<<32+2, math.MaxInt)
	return pools
}

func TestGameCallsAcceptAllArguments(t *testing.T) {
	pools := gamePools()
	for name, f := range gameCalls {
		sweep(t, name, f, pools)
	}
}

func checkTaking(t *testing.T, check func(*testing.T, string, any, ...any), l impl.Ladder) {
	t.Helper()
	check(t, "IsTaking", impl.IsTaking, l)
	check(t, "TakeWinner", impl.TakeWinner, l)
	check(t, "GoodTakes", impl.GoodTakes, l)
	check(t, "TakeLength", impl.TakeLength, l)
	check(t, "TakeLine", impl.TakeLine, l)
	check(t, "PlayTakes", impl.PlayTakes, l, []int(nil))
	check(t, "PlayTakes", impl.PlayTakes, l, []int{})
	check(t, "PlayTakes", impl.PlayTakes, l, []int{0})
	check(t, "CountHomeSets", impl.CountHomeSets, l)
	check(t, "LeastTakes", impl.LeastTakes, l)
}

func TestNoTakingGame(t *testing.T) {
	for _, l := range validTakings() {
		checkTaking(t, succeeds, l)
	}
	for _, l := range invalidTakings() {
		checkTaking(t, fails, l)
	}
}

// TestTakesOutsideFail takes indices of no rung, or of one that is taken out
// already, at first and behind others.
func TestTakesOutsideFail(t *testing.T) {
	for _, l := range validTakings() {
		k := len(l.Rungs)
		outside := append(farNumbers(), -2, -1, k, k+1, 12, 13, 63, 64, 65, 128)
		for _, at := range outside {
			fails(t, "PlayTakes", impl.PlayTakes, l, []int{at})
			fails(t, "PlayTakes", impl.PlayTakes, l, []int{0, at})
			fails(t, "PlayTakes", impl.PlayTakes, l, []int{at, 0})
		}
		for at := range k {
			succeeds(t, "PlayTakes", impl.PlayTakes, l, []int{at})
			fails(t, "PlayTakes", impl.PlayTakes, l, []int{at, at})
			fails(t, "PlayTakes", impl.PlayTakes, l, append(allIndices(l), at))
		}
		fails(t, "PlayTakes", impl.PlayTakes, l, make([]int, 5000))
	}
	// Nobody is at home before the last one of these is taken.
	falling := impl.Ladder{Wires: 8, Rungs: []int{6, 5, 4, 3, 2, 1, 0}}
	succeeds(t, "PlayTakes", impl.PlayTakes, falling, []int{3, 0, 6, 2, 5, 1, 4})
	fails(t, "PlayTakes", impl.PlayTakes, falling, []int{3, 0, 6, 2, 5, 1, 1})
	fails(t, "PlayTakes", impl.PlayTakes, falling, []int{3, 0, 6, 2, 5, 1, 4, 4})
	great := impl.Ladder{Wires: 8, Rungs: []int{0, 1, 2, 3, 4, 5, 6, 0, 1, 2, 3, 4}}
	succeeds(t, "PlayTakes", impl.PlayTakes, great, []int{11, 10, 9, 8, 7, 6, 5, 4, 3, 2, 1, 0})
	fails(t, "PlayTakes", impl.PlayTakes, great, []int{1, 2, 3, 4, 5, 6, 8, 9, 10, 11, 0})
}

// checkPlacing checks the calls about one placing game; PlacesWon is about the
// games from all wires.
func checkPlacing(t *testing.T, check func(*testing.T, string, any, ...any), n, at, goal, moves int) {
	t.Helper()
	check(t, "PlaceWinner", impl.PlaceWinner, n, at, goal, moves)
	check(t, "GoodPlaces", impl.GoodPlaces, n, at, goal, moves)
}

func TestNumbersOfPlacingGames(t *testing.T) {
	for n := 2; n <= impl.MaxWires; n++ {
		for moves := 0; moves <= impl.MaxPlaced; moves++ {
			for at := range n {
				checkPlacing(t, succeeds, n, at, n-1-at, moves)
				succeeds(t, "PlacesWon", impl.PlacesWon, n, at, moves)
			}
		}
		for _, wire := range append(farNumbers(), -n, -2, -1, n, n+1, 8, 9) {
			checkPlacing(t, fails, n, wire, 0, 1)
			checkPlacing(t, fails, n, 0, wire, 1)
			checkPlacing(t, fails, n, wire, wire, 0)
			fails(t, "PlacesWon", impl.PlacesWon, n, wire, 1)
		}
		for _, moves := range append(farNumbers(), -2, -1, 9, 10) {
			checkPlacing(t, fails, n, 0, 0, moves)
			fails(t, "PlacesWon", impl.PlacesWon, n, 0, moves)
		}
	}
	for _, n := range append(farNumbers(), -8, -2, -1, 0, 1, 9, 10) {
		for _, moves := range []int{0, 1, 8} {
			checkPlacing(t, fails, n, 0, 0, moves)
			checkPlacing(t, fails, n, 0, 1, moves)
			fails(t, "PlacesWon", impl.PlacesWon, n, 0, moves)
		}
	}
}

func TestNoLastingGame(t *testing.T) {
	for _, l := range validLastings() {
		succeeds(t, "LastWins", impl.LastWins, l)
		succeeds(t, "LastMoves", impl.LastMoves, l)
	}
	for _, l := range invalidLastings() {
		fails(t, "LastWins", impl.LastWins, l)
		fails(t, "LastMoves", impl.LastMoves, l)
	}
}
