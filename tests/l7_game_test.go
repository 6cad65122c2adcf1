package tests

import (
	"math/bits"
	"slices"
	"strconv"
	"testing"

	"loop.example/g01209/impl"
)

// This file tests promise 7.

// leftOf returns the ladder of the rungs with some indices.
func leftOf(l impl.Ladder, indices []int) impl.Ladder {
	left := impl.Ladder{Wires: l.Wires}
	for _, at := range indices {
		left.Rungs = append(left.Rungs, l.Rungs[at])
	}
	return left
}

func isHomeOn(l impl.Ladder) bool { return slices.IsSorted(resultOf(l)) }

// allIndices returns the indices of the rungs of a ladder.
func allIndices(l impl.Ladder) []int {
	indices := make([]int, len(l.Rungs))
	for at := range indices {
		indices[at] = at
	}
	return indices
}

func without(list []int, number int) []int {
	return slices.DeleteFunc(slices.Clone(list), func(other int) bool { return other == number })
}

// takings finds best play of the taking game on a ladder from all lines that
// follow the rungs left. Who takes the last rung of a line wins.
type takings struct {
	l     impl.Ladder
	lines map[string][]int
}

func takingsOf(l impl.Ladder) takings { return takings{l: l, lines: map[string][]int{}} }

// isWorse reports whether a line is worse than another for the one who begins.
func isWorse(line, other []int) bool {
	a, b := len(line), len(other)
	switch {
	case a%2 != b%2:
		return a%2 == 0
	case a%2 == 1:
		return a > b
	}
	return a < b
}

func (g takings) best(left []int) []int {
	key := ""
	for _, at := range left {
		key += strconv.Itoa(at) + " "
	}
	if line, ok := g.lines[key]; ok {
		return line
	}
	var best []int
	if !isHomeOn(leftOf(g.l, left)) {
		for i, at := range left {
			line := append([]int{at}, g.best(without(left, at))...)
			if i == 0 || isWorse(best, line) {
				best = line
			}
		}
	}
	g.lines[key] = best
	return best
}

// goodTakes returns the rungs behind which the other one does not win.
func (g takings) goodTakes() []int {
	var good []int
	for at := range g.l.Rungs {
		if len(g.best(without(allIndices(g.l), at)))%2 == 0 {
			good = append(good, at)
		}
	}
	return good
}

// takenLadders calls f with ladders of at most MaxTaken rungs on which not
// everybody is at home, among them some of each number of wires and of rungs.
func takenLadders(f func(l impl.Ladder)) {
	each := func(l impl.Ladder) {
		if len(l.Rungs) <= impl.MaxTaken && !isHomeOn(l) {
			f(l)
		}
	}
	someLadders(each)
	mixed := mixer(11)
	for n := 2; n <= impl.MaxWires; n++ {
		for k := 9; k <= impl.MaxTaken; k++ {
			l := impl.Ladder{Wires: n}
			for range k {
				l.Rungs = append(l.Rungs, mixed.below(n-1))
			}
			each(l)
		}
	}
}

func TestExampleOfChapter7(t *testing.T) {
	read := func(s string) impl.Ladder { return must[impl.Ladder](t)(impl.ParseLadder(s)) }
	two, three := read("3:0,1"), read("3:0,0,0")
	if wins, ok := impl.TakeWinner(two); wins || !ok {
		t.Error("wins", wins, ok)
	}
	if line := must[[]int](t)(impl.TakeLine(two)); !sameInts(line, []int{0, 1}) {
		t.Error("line", line)
	}
	if l := must[impl.Ladder](t)(impl.PlayTakes(two, []int{1, 0})); textOf(l) != "3:-" {
		t.Error("left", l)
	}
	if good := must[[]int](t)(impl.GoodTakes(three)); !sameInts(good, []int{0, 1, 2}) {
		t.Error("good", good)
	}
	if length := must[int](t)(impl.TakeLength(three)); length != 1 {
		t.Error("length", length)
	}
	if wins, ok := impl.PlaceWinner(3, 1, 0, 1); !wins || !ok {
		t.Error("one move", wins, ok)
	}
	if wins, ok := impl.PlaceWinner(3, 1, 0, 2); wins || !ok {
		t.Error("two moves", wins, ok)
	}
}

func TestTakingIsTold(t *testing.T) {
	someLadders(func(l impl.Ladder) {
		if want := len(l.Rungs) <= 12 && !isHomeOn(l); impl.IsTaking(l) != want {
			t.Fatal("taking", l)
		}
	})
	for s, want := range map[string]bool{
		"3:0,0,0": true, "3:0,1": true, "8:6": true, "2:0,0,0,0,0,0,0,0,0,0,0": true, "3:0,0,0,0,0,0,0,0,0,0,0,1": true,
		"2:-": false, "8:-": false, "2:0,0": false, "3:0,1,0,1,0,1": false, "4:0,2,0,2": false, "2:0,0,0,0,0,0,0,0,0,0,0,0": false,
		"2:0,0,0,0,0,0,0,0,0,0,0,0,0": false, "3:0,1,0,1,0,1,0,1,0,1,0,1,0": false,
	} {
		if impl.IsTaking(must[impl.Ladder](t)(impl.ParseLadder(s))) != want {
			t.Error("taking", s)
		}
	}
}

// TestSomeAtHome takes ladders on which some are at home, but not everybody.
func TestSomeAtHome(t *testing.T) {
	for s, want := range map[string][]int{"3:1": {0}, "8:3": {0}, "4:0,2": {0, 1}, "5:0,0,0,3,3": {0}, "3:0,1,0": {1}} {
		l := must[impl.Ladder](t)(impl.ParseLadder(s))
		if line, ok := impl.TakeLine(l); !ok || !impl.IsTaking(l) || !sameInts(line, want) {
			t.Error("line", s, line, ok)
		}
	}
}

func TestBestTakes(t *testing.T) {
	takenLadders(func(l impl.Ladder) {
		g := takingsOf(l)
		line := g.best(allIndices(l))
		if got, ok := impl.TakeLine(l); !ok || !sameInts(got, line) {
			t.Fatal("line", l, got, ok, line)
		}
		if got, ok := impl.TakeLength(l); !ok || got != len(line) {
			t.Fatal("length", l, got, ok, line)
		}
		if got, ok := impl.TakeWinner(l); !ok || got != (len(line)%2 == 1) {
			t.Fatal("winner", l, got, ok, line)
		}
		if got, ok := impl.GoodTakes(l); !ok || !sameInts(got, g.goodTakes()) {
			t.Fatal("good", l, got, ok)
		}
	})
}

// TestTakesByParity checks what follows as everybody is at home only on
// ladders with an even number of rungs.
func TestTakesByParity(t *testing.T) {
	takenLadders(func(l impl.Ladder) {
		isOdd := len(l.Rungs)%2 == 1
		var want []int
		if isOdd {
			want = allIndices(l)
		}
		if wins, ok := impl.TakeWinner(l); wins != isOdd || !ok {
			t.Fatal("winner", l, wins, ok)
		}
		if good, ok := impl.GoodTakes(l); !sameInts(good, want) || !ok {
			t.Fatal("good", l, good, ok)
		}
	})
}

// TestSingleLines has those who win hurry, and the others put it off, also
// with a rung that is not the one with the least index.
func TestSingleLines(t *testing.T) {
	for _, c := range []struct {
		text string
		line []int
	}{
		{"2:0", []int{0}}, {"3:0,1,0", []int{1}}, {"3:0,0,0,1", []int{0, 3}}, {"4:2,0,1,0", []int{1, 0, 2, 3}}, {"4:0,1,2,0", []int{0, 1, 2, 3}},
		{"5:0,1,2,3", []int{0, 1, 2, 3}}, {"8:6,5,4,3,2,1,0", []int{0, 1, 2, 3, 4, 5, 6}}, {"4:0,0,2", []int{2}}, {"4:2,0,0,1,1", []int{0}},
	} {
		l := must[impl.Ladder](t)(impl.ParseLadder(c.text))
		if line, ok := impl.TakeLine(l); !sameInts(line, c.line) || !ok {
			t.Error("line", c.text, line, ok)
		}
		if length, ok := impl.TakeLength(l); length != len(c.line) || !ok {
			t.Error("length", c.text, length, ok)
		}
	}
}

// checkWinner lets the one who can win take any good rung, and the other one
// any rung at all: only who can win brings everybody home.
func checkWinner(t *testing.T, l impl.Ladder) {
	t.Helper()
	wins := must[bool](t)(impl.TakeWinner(l))
	takes := allIndices(l)
	if wins {
		takes = must[[]int](t)(impl.GoodTakes(l))
		if len(takes) == 0 {
			t.Fatal("nothing to win with", l)
		}
	}
	for _, at := range takes {
		next := must[impl.Ladder](t)(impl.PlayTakes(l, []int{at}))
		if !impl.IsTaking(next) {
			if !wins || !isHomeOn(next) {
				t.Fatal("the wrong one wins", l, at)
			}
			continue
		}
		if must[bool](t)(impl.TakeWinner(next)) == wins {
			t.Fatal("the winner changes", l, at)
		}
		checkWinner(t, next)
	}
}

func TestWhoCanWinDoesSo(t *testing.T) {
	takenLadders(func(l impl.Ladder) {
		if len(l.Rungs) <= 5 {
			checkWinner(t, l)
		}
	})
}

// TestTakesArePlayed plays all takes of different rungs, also behind the end
// of a game.
func TestTakesArePlayed(t *testing.T) {
	takenLadders(func(l impl.Ladder) {
		if len(l.Rungs) > 5 {
			return
		}
		var play func(takes, left []int, isOver bool)
		play = func(takes, left []int, isOver bool) {
			want := leftOf(l, left)
			if isOver {
				want = impl.Ladder{}
			}
			if got, ok := impl.PlayTakes(l, takes); ok == isOver || !sameLadder(got, want) {
				t.Fatal("played", l, takes, got, ok)
			}
			isOver = isOver || isHomeOn(leftOf(l, left))
			for _, at := range left {
				play(append(slices.Clone(takes), at), without(left, at), isOver)
			}
		}
		play(nil, allIndices(l), false)
	})
}

func TestLinesArePlayed(t *testing.T) {
	takenLadders(func(l impl.Ladder) {
		line := must[[]int](t)(impl.TakeLine(l))
		left := allIndices(l)
		for i, at := range line {
			left = without(left, at)
			got, ok := impl.PlayTakes(l, line[:i+1])
			if !ok || !sameLadder(got, leftOf(l, left)) || isHomeOn(got) != (i == len(line)-1) {
				t.Fatal("played", l, line[:i+1], got, ok)
			}
		}
		for _, at := range left {
			if got, ok := impl.PlayTakes(l, append(slices.Clone(line), at)); ok || !sameLadder(got, impl.Ladder{}) {
				t.Fatal("played behind the end", l, line, at, got, ok)
			}
		}
		if len(line) < must[int](t)(impl.LeastTakes(l)) {
			t.Fatal("too short", l, line)
		}
	})
}

func TestHomeSets(t *testing.T) {
	takenLadders(func(l impl.Ladder) {
		count, most := 0, 0
		for set := range 1 << len(l.Rungs) {
			left := slices.DeleteFunc(allIndices(l), func(at int) bool { return set>>at&1 == 0 })
			if isHomeOn(leftOf(l, left)) {
				count++
				most = max(most, bits.OnesCount(uint(set)))
			}
		}
		if got, ok := impl.CountHomeSets(l); got != count || !ok {
			t.Fatal("sets", l, got, ok, count)
		}
		if got, ok := impl.LeastTakes(l); got != len(l.Rungs)-most || !ok {
			t.Fatal("takes", l, got, ok, most)
		}
	})
}

func TestHomeSetsOfSingleLadders(t *testing.T) {
	for _, c := range []struct {
		text        string
		sets, takes int
	}{
		{"2:0", 1, 1}, {"2:0,0,0", 4, 1}, {"2:0,0,0,0,0,0,0,0,0,0,0", 1024, 1}, {"3:0,1", 1, 2}, {"3:0,1,0", 2, 1},
		{"3:0,0,0,0,0,0,0,0,0,0,0,1", 1024, 2}, {"8:0,1,2,3,4,5,6", 1, 7}, {"8:0,1,2,3,4,5,6,5,4,3,2,1", 32, 2},
		{"3:0,0,0,0,0,0,1,1,1,1,1,1", 0, 0}, {"4:0,2,0,2,0", 8, 1},
	} {
		l := must[impl.Ladder](t)(impl.ParseLadder(c.text))
		if sets, ok := impl.CountHomeSets(l); sets != c.sets || ok != (c.sets > 0) {
			t.Error("sets", c.text, sets, ok)
		}
		if takes, ok := impl.LeastTakes(l); takes != c.takes || ok != (c.sets > 0) {
			t.Error("takes", c.text, takes, ok)
		}
	}
}

// stepOver returns where one is behind a rung.
func stepOver(rung, at int) int {
	switch at {
	case rung:
		return rung + 1
	case rung + 1:
		return rung
	}
	return at
}

// placings returns, for each number of rungs still to come in a placing game,
// from which wires the first one can win, told from the bottom upwards.
func placings(n, goal, moves int) [][]bool {
	won := make([][]bool, moves+1)
	won[0] = make([]bool, n)
	won[0][goal] = true
	for left := 1; left <= moves; left++ {
		won[left] = make([]bool, n)
		isFirst := (moves-left)%2 == 0
		for at := range n {
			ways := 0
			for rung := range n - 1 {
				if won[left-1][stepOver(rung, at)] {
					ways++
				}
			}
			won[left][at] = ways == n-1 || isFirst && ways > 0
		}
	}
	return won
}

func TestPlacingGames(t *testing.T) {
	found := map[bool]int{}
	for n := 2; n <= impl.MaxWires; n++ {
		for goal := range n {
			for moves := 0; moves <= impl.MaxPlaced; moves++ {
				won := placings(n, goal, moves)
				checkPlaces(t, n, goal, won)
				for _, is := range won[moves] {
					found[is]++
				}
			}
		}
	}
	if found[true] < 100 || found[false] < 100 {
		t.Error("hardly any game of one kind", found)
	}
}

func checkPlaces(t *testing.T, n, goal int, won [][]bool) {
	t.Helper()
	moves := len(won) - 1
	var wires []int
	for at := range n {
		if won[moves][at] {
			wires = append(wires, at)
		}
		var good []int
		for rung := range n - 1 {
			if moves > 0 && won[moves-1][stepOver(rung, at)] {
				good = append(good, rung)
			}
		}
		if wins, ok := impl.PlaceWinner(n, at, goal, moves); wins != won[moves][at] || !ok {
			t.Fatal("winner", n, at, goal, moves, wins, ok)
		}
		if got, ok := impl.GoodPlaces(n, at, goal, moves); !sameInts(got, good) || !ok {
			t.Fatal("good", n, at, goal, moves, got, ok, good)
		}
	}
	if got, ok := impl.PlacesWon(n, goal, moves); !sameInts(got, wires) || !ok {
		t.Fatal("wires", n, goal, moves, got, ok, wires)
	}
}

// playedOut reports whether the first one can win, by all ladders that come of
// a placing game.
func playedOut(l impl.Ladder, at, goal, moves int) bool {
	isFirst := len(l.Rungs)%2 == 0
	if len(l.Rungs) == moves {
		return resultOf(l)[at] == goal
	}
	for rung := range l.Wires - 1 {
		next := impl.Ladder{Wires: l.Wires, Rungs: append(slices.Clone(l.Rungs), rung)}
		if playedOut(next, at, goal, moves) == isFirst {
			return isFirst
		}
	}
	return !isFirst
}

func TestPlacingGamesPlayedOut(t *testing.T) {
	for n := 2; n <= 5; n++ {
		for moves := 0; moves <= 5; moves++ {
			for at := range n {
				for goal := range n {
					want := playedOut(impl.Ladder{Wires: n}, at, goal, moves)
					if wins, ok := impl.PlaceWinner(n, at, goal, moves); wins != want || !ok {
						t.Fatal("winner", n, at, goal, moves, wins, ok)
					}
				}
			}
		}
	}
}

func TestSinglePlacingGames(t *testing.T) {
	for _, c := range []struct {
		n, at, goal, moves int
		wins               bool
		good               []int
	}{
		{2, 0, 0, 0, true, nil}, {2, 0, 1, 0, false, nil}, {2, 0, 1, 1, true, []int{0}}, {2, 0, 0, 1, false, nil}, {2, 1, 1, 8, true, []int{0}},
		{2, 1, 0, 8, false, nil}, {3, 1, 1, 0, true, nil}, {3, 1, 0, 1, true, []int{0}}, {3, 1, 2, 1, true, []int{1}}, {3, 1, 1, 1, false, nil},
		{3, 0, 0, 1, true, []int{1}}, {3, 1, 0, 2, false, nil}, {3, 2, 0, 1, false, nil}, {8, 4, 4, 1, true, []int{0, 1, 2, 5, 6}},
		{8, 7, 7, 1, true, []int{0, 1, 2, 3, 4, 5}}, {8, 0, 7, 7, false, nil}, {8, 7, 0, 8, false, nil},
	} {
		if wins, ok := impl.PlaceWinner(c.n, c.at, c.goal, c.moves); wins != c.wins || !ok {
			t.Error("winner", c, wins, ok)
		}
		if good, ok := impl.GoodPlaces(c.n, c.at, c.goal, c.moves); !sameInts(good, c.good) || !ok {
			t.Error("good", c, good, ok)
		}
	}
}

// isLeastBy reports whether no two meet more than once.
func isLeastBy(l impl.Ladder) bool {
	return slices.Max(slices.Concat(descentOf(l).meetings...)) <= 1
}

// lastings tells who wins the lasting game, by who stands where: a rung can be
// added below two who have not met, and these stand in order.
type lastings map[orderKey]bool

func (won lastings) wins(n int, standing orderKey) bool {
	if is, ok := won[standing]; ok {
		return is
	}
	is := false
	for rung := range n - 1 {
		if standing[rung] < standing[rung+1] {
			next := standing
			next[rung], next[rung+1] = standing[rung+1], standing[rung]
			is = !won.wins(n, next) || is
		}
	}
	won[standing] = is
	return is
}

// standingOn returns who stands on which wire at the bottom.
func standingOn(l impl.Ladder) orderKey {
	var standing orderKey
	for start, wire := range resultOf(l) {
		standing[wire] = start
	}
	return standing
}

func checkLasting(t *testing.T, l impl.Ladder, won lastings) []int {
	t.Helper()
	var want []int
	for rung := range l.Wires - 1 {
		if isLeastBy(impl.Ladder{Wires: l.Wires, Rungs: append(slices.Clone(l.Rungs), rung)}) {
			want = append(want, rung)
		}
	}
	if moves, ok := impl.LastMoves(l); !sameInts(moves, want) || !ok {
		t.Fatal("moves", l, moves, ok, want)
	}
	is := won.wins(l.Wires, standingOn(l))
	if is != ((l.Wires*(l.Wires-1)/2-len(l.Rungs))%2 == 1) {
		t.Fatal("not by the longest least ladders", l)
	}
	if wins, ok := impl.LastWins(l); wins != is || !ok {
		t.Fatal("wins", l, wins, ok)
	}
	return want
}

func TestLastingGames(t *testing.T) {
	won := map[int]lastings{}
	for n := 2; n <= impl.MaxWires; n++ {
		won[n] = lastings{}
	}
	eachLast := func(l impl.Ladder) {
		if isLeastBy(l) {
			checkLasting(t, l, won[l.Wires])
			return
		}
		if wins, ok := impl.LastWins(l); wins || ok {
			t.Fatal("wins", l, wins, ok)
		}
		if moves, ok := impl.LastMoves(l); len(moves) != 0 || ok {
			t.Fatal("moves", l, moves, ok)
		}
	}
	someLadders(eachLast)
	eachLadder(4, 7, eachLast)
	eachLadder(5, 4, eachLast)
}

// TestLastingGamesToTheEnd adds rungs as long as that can be done.
func TestLastingGamesToTheEnd(t *testing.T) {
	mixed := mixer(12)
	for n := 2; n <= impl.MaxWires; n++ {
		won := lastings{}
		for range 10 {
			l := impl.Ladder{Wires: n}
			for moves := checkLasting(t, l, won); len(moves) > 0; moves = checkLasting(t, l, won) {
				l.Rungs = append(l.Rungs, moves[mixed.below(len(moves))])
			}
			if len(l.Rungs) != n*(n-1)/2 {
				t.Fatal("not the longest", l)
			}
		}
	}
}

func TestSingleLastingGames(t *testing.T) {
	for _, c := range []struct {
		text  string
		wins  bool
		moves []int
	}{
		{"2:-", true, []int{0}}, {"2:0", false, nil}, {"3:-", true, []int{0, 1}}, {"3:0", false, []int{1}}, {"3:0,1", true, []int{0}},
		{"3:0,1,0", false, nil}, {"3:1,0,1", false, nil}, {"4:-", false, []int{0, 1, 2}}, {"4:0,2", false, []int{1}}, {"4:1", true, []int{0, 2}},
		{"8:-", false, []int{0, 1, 2, 3, 4, 5, 6}}, {"8:0,1,2,3,4,5,6", true, []int{0, 1, 2, 3, 4, 5}},
		{"8:0,1,2,3,4,5,6,0,1,2,3,4,5,0,1,2,3,4,0,1,2,3,0,1,2,0,1", true, []int{0}},
		{"8:0,1,2,3,4,5,6,0,1,2,3,4,5,0,1,2,3,4,0,1,2,3,0,1,2,0,1,0", false, nil},
	} {
		l := must[impl.Ladder](t)(impl.ParseLadder(c.text))
		if wins, ok := impl.LastWins(l); wins != c.wins || !ok {
			t.Error("wins", c.text, wins, ok)
		}
		if moves, ok := impl.LastMoves(l); !sameInts(moves, c.moves) || !ok {
			t.Error("moves", c.text, moves, ok)
		}
	}
}
