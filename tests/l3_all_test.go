package tests

import (
	"reflect"
	"slices"
	"testing"

	"loop.example/g01209/impl"
)

// This file tests promise 3.

// leasts are the least ladders of one result: how many there are in all and
// with each first rung, and the rungs of each, in order, if they are few.
type leasts struct {
	count int
	first [impl.MaxWires]int
	lists [][]int
}

// few is more than are listed, so that the lists of some orders that are too
// many are known as well.
const few = 900

// grownLeast returns the least ladders of n wires by their results, for each
// number of rungs. It grows all of them from the top down, a rung a round: a
// rung at the bottom exchanges where two come out.
func grownLeast(n int) []map[orderKey]*leasts {
	home := make([]int, n)
	for i := range home {
		home[i] = i
	}
	old := map[orderKey]bool{keyOf(home): true}
	rounds := []map[orderKey]*leasts{{keyOf(home): {count: 1, lists: [][]int{nil}}}}
	for {
		round := map[orderKey]*leasts{}
		for result, l := range rounds[len(rounds)-1] {
			for rung := range n - 1 {
				next := result
				for i := range n {
					switch result[i] {
					case rung:
						next[i] = rung + 1
					case rung + 1:
						next[i] = rung
					}
				}
				if old[next] {
					continue
				}
				if round[next] == nil {
					round[next] = &leasts{}
				}
				round[next].grow(l, rung)
			}
		}
		if len(round) == 0 {
			return rounds
		}
		for result, l := range round {
			old[result] = true
			if l.count > few {
				l.lists = nil
			}
			slices.SortFunc(l.lists, slices.Compare[[]int])
		}
		rounds = append(rounds, round)
	}
}

// grow adds what a rung below the least ladders of another result makes.
func (l *leasts) grow(shorter *leasts, rung int) {
	l.count += shorter.count
	for i, count := range shorter.first {
		l.first[i] += count
	}
	if shorter.first == [impl.MaxWires]int{} {
		l.first[rung]++
	}
	if l.count > few {
		return
	}
	for _, list := range shorter.lists {
		l.lists = append(l.lists, append(slices.Clone(list), rung))
	}
}

// eachLeast calls f with all orders of 2..6 numbers and their least ladders.
func eachLeast(f func(p []int, l *leasts)) {
	for n := 2; n <= 6; n++ {
		for _, round := range grownLeast(n) {
			for result, l := range round {
				f(result[:n], l)
			}
		}
	}
}

func TestExampleOfChapter3(t *testing.T) {
	all := must[[]impl.Ladder](t)(impl.AllLeast([]int{2, 1, 0}))
	if len(all) != 2 || textOf(all[0]) != "3:0,1,0" || textOf(all[1]) != "3:1,0,1" {
		t.Error("all", all)
	}
	if firsts := must[[]impl.Ladder](t)(impl.SlideClasses([]int{2, 1, 0})); !reflect.DeepEqual(firsts, all) {
		t.Error("classes", firsts)
	}
	if edges := must[[][]int](t)(impl.FlipEdges([]int{2, 1, 0})); !reflect.DeepEqual(edges, [][]int{{0, 1}}) {
		t.Error("edges", edges)
	}
	p := []int{3, 2, 1, 0}
	if n := must[int](t)(impl.CountLeast(p)); n != 16 {
		t.Error("count", n)
	}
	if firsts := must[[]impl.Ladder](t)(impl.SlideClasses(p)); len(firsts) != 8 {
		t.Error("classes", firsts)
	}
	degrees := make([]int, 8)
	edges := must[[][]int](t)(impl.FlipEdges(p))
	for _, edge := range edges {
		degrees[edge[0]]++
		degrees[edge[1]]++
	}
	if !sameInts(degrees, slices.Repeat([]int{2}, 8)) {
		t.Error("no ring", edges)
	}
	if n := must[int](t)(impl.FarthestFlips(p)); n != 4 {
		t.Error("farthest", n)
	}
	if n := must[int](t)(impl.LongestByFormula(4)); n != 16 {
		t.Error("formula", n)
	}
}

func TestLimitsOfChapter3(t *testing.T) {
	if impl.MaxListed != 800 || impl.MaxCounted != 6 {
		t.Error("limits", impl.MaxListed, impl.MaxCounted)
	}
}

func TestCountsOfAllOrders(t *testing.T) {
	eachLeast(func(p []int, l *leasts) {
		if count, ok := impl.CountLeast(p); !ok || count != l.count {
			t.Fatal("count", p, count, ok)
		}
		for rung := range len(p) - 1 {
			if count, ok := impl.CountFirst(p, rung); !ok || count != l.first[rung] {
				t.Fatal("first", p, rung, count, ok)
			}
		}
		fails(t, "CountFirst", impl.CountFirst, p, -1)
		fails(t, "CountFirst", impl.CountFirst, p, len(p)-1)
	})
}

// TestCountsBySums checks that least ladders are counted by their first rungs.
func TestCountsBySums(t *testing.T) {
	for n := 2; n <= 6; n++ {
		eachOrder(n, func(p []int) {
			sum := 0
			for rung := range n - 1 {
				sum += must[int](t)(impl.CountFirst(p, rung))
			}
			count := must[int](t)(impl.CountLeast(p))
			if sum != count && !(sum == 0 && count == 1 && slices.IsSorted(p)) {
				t.Fatal("sum", p, sum, count)
			}
		})
	}
}

func TestCountsByLength(t *testing.T) {
	for n := -1; n <= 9; n++ {
		byLength, okLength := impl.CountByLength(n)
		all, okAll := impl.CountAllLeast(n)
		longest, okLongest := impl.LongestByFormula(n)
		if n < 2 || n > 6 {
			if okLength || byLength != nil || okAll || all != 0 || okLongest || longest != 0 {
				t.Error("counts", n, byLength, okLength, all, okAll, longest, okLongest)
			}
			continue
		}
		var want []int
		sum := 0
		for _, round := range grownLeast(n) {
			ofRound := 0
			for _, l := range round {
				ofRound += l.count
			}
			want = append(want, ofRound)
			sum += ofRound
		}
		if !okLength || !sameInts(byLength, want) || len(want) != n*(n-1)/2+1 {
			t.Error("by length", n, byLength, okLength)
		}
		if !okAll || all != sum {
			t.Error("all", n, all, okAll)
		}
		if !okLongest || longest != want[len(want)-1] {
			t.Error("formula", n, longest, okLongest)
		}
	}
}

// TestKnownCounts compares with the numbers of the longest ladders, which are
// those of standard fillings of a staircase.
func TestKnownCounts(t *testing.T) {
	for n, want := range map[int]int{2: 1, 3: 2, 4: 16, 5: 768, 6: 292864} {
		p := make([]int, n)
		for i := range p {
			p[i] = n - 1 - i
		}
		if count := must[int](t)(impl.CountLeast(p)); count != want {
			t.Error("count", n, count)
		}
		if count := must[int](t)(impl.LongestByFormula(n)); count != want {
			t.Error("formula", n, count)
		}
	}
}

// TestAllLeast has orders with 768 least ladders, of 5 and of 6 numbers, and
// with 825: no order has a number between these.
func TestAllLeast(t *testing.T) {
	listed, tooMany := 0, 0
	eachLeast(func(p []int, l *leasts) {
		all, ok := impl.AllLeast(p)
		if ok != (l.count <= 800) || len(all) != len(l.lists) && ok || !ok && all != nil {
			t.Fatal("all", p, len(all), ok)
		}
		for i, one := range all {
			if !sameLadder(one, impl.Ladder{Wires: len(p), Rungs: l.lists[i]}) {
				t.Fatal("all", p, i, one)
			}
		}
		if l.count == 768 {
			listed++
		}
		if l.count == 825 {
			tooMany++
		}
		if l.count > 768 && l.count < 825 {
			t.Error("the test is wrong", p, l.count)
		}
	})
	if listed == 0 || tooMany == 0 {
		t.Error("the limit is not met", listed, tooMany)
	}
}

func TestRanks(t *testing.T) {
	eachLeast(func(p []int, l *leasts) {
		// Orders of 6 numbers have too many ladders for trying all of them.
		step := 1
		if len(p) == 6 {
			step = 1 + len(l.lists)/7
		}
		for rank := 0; rank < len(l.lists); rank += step {
			want := impl.Ladder{Wires: len(p), Rungs: l.lists[rank]}
			if got, ok := impl.LeastOfRank(p, rank); !ok || !sameLadder(got, want) {
				t.Fatal("of rank", p, rank, got, ok)
			}
			if got, ok := impl.RankOfLeast(want); !ok || got != rank {
				t.Fatal("rank", want, got, ok)
			}
		}
		fails(t, "LeastOfRank", impl.LeastOfRank, p, -1)
		fails(t, "LeastOfRank", impl.LeastOfRank, p, l.count)
		fails(t, "LeastOfRank", impl.LeastOfRank, p, l.count+1)
	})
}

// eachLeastOf calls f with the rungs of all least ladders with the result p,
// in order. It keeps none of them, so that they may be many.
func eachLeastOf(p []int, f func(rungs []int)) {
	rest := slices.Clone(p)
	var rungs []int
	var grow func()
	grow = func() {
		if slices.IsSorted(rest) {
			f(rungs)
			return
		}
		for rung := range len(rest) - 1 {
			if rest[rung] < rest[rung+1] {
				continue
			}
			rest[rung], rest[rung+1] = rest[rung+1], rest[rung]
			rungs = append(rungs, rung)
			grow()
			rungs = rungs[:len(rungs)-1]
			rest[rung], rest[rung+1] = rest[rung+1], rest[rung]
		}
	}
	grow()
}

func TestRanksOfMany(t *testing.T) {
	p := []int{5, 4, 3, 2, 1, 0}
	rank := 0
	eachLeastOf(p, func(rungs []int) {
		if rank%4871 < 2 || rank == 292863 {
			want := impl.Ladder{Wires: 6, Rungs: rungs}
			if got, ok := impl.LeastOfRank(p, rank); !ok || !sameLadder(got, want) {
				t.Fatal("of rank", rank, got, ok)
			}
			if got, ok := impl.RankOfLeast(want); !ok || got != rank {
				t.Fatal("rank", want, got, ok)
			}
		}
		rank++
	})
	if rank != 292864 {
		t.Error("ranks", rank)
	}
}

// sameLists compares lists of rungs with ladders of n wires.
func sameLists(n int, lists [][]int, ladders []impl.Ladder) bool {
	return slices.EqualFunc(lists, ladders, func(rungs []int, l impl.Ladder) bool {
		return sameLadder(l, impl.Ladder{Wires: n, Rungs: rungs})
	})
}

// classesOf returns the first ladders of classes, how many ladders they have
// and the number of the class of each ladder, for all ladders in order.
func classesOf(lists [][]int) ([][]int, []int, map[string]int) {
	var firsts [][]int
	var sizes []int
	numbers := map[string]int{}
	for _, rungs := range lists {
		if _, known := numbers[textOf(impl.Ladder{Rungs: rungs})]; known {
			continue
		}
		class := slidesOf(rungs)
		for _, same := range class {
			numbers[textOf(impl.Ladder{Rungs: same})] = len(firsts)
		}
		firsts = append(firsts, class[0])
		sizes = append(sizes, len(class))
	}
	return firsts, sizes, numbers
}

// edgesOf returns the pairs of classes that a flip joins.
func edgesOf(lists [][]int, numbers map[string]int) [][]int {
	var edges [][]int
	for _, rungs := range lists {
		_, made := movesOf(impl.Ladder{Rungs: rungs})
		for move, next := range made {
			a, b := numbers[textOf(impl.Ladder{Rungs: rungs})], numbers[textOf(next)]
			if move[0] == 'f' {
				edges = append(edges, []int{min(a, b), max(a, b)})
			}
		}
	}
	slices.SortFunc(edges, slices.Compare[[]int])
	return slices.CompactFunc(edges, slices.Equal[[]int])
}

// flipsTo returns by their texts how many flips are needed from a ladder to
// all that moves make of it. It goes from ladder to ladder, not by classes.
func flipsTo(rungs []int) map[string]int {
	flips := map[string]int{}
	for now, round := [][]int{rungs}, 0; len(now) > 0; round++ {
		var later [][]int
		for ; len(now) > 0; now = now[1:] {
			text := textOf(impl.Ladder{Rungs: now[0]})
			if _, known := flips[text]; known {
				continue
			}
			flips[text] = round
			_, made := movesOf(impl.Ladder{Rungs: now[0]})
			for move, next := range made {
				if move[0] == 's' {
					now = append(now, next.Rungs)
				} else {
					later = append(later, next.Rungs)
				}
			}
		}
		now = later
	}
	return flips
}

// testedClasses calls f with orders whose ladders are listed: all of 2..5
// numbers and some of 6, those with the most ladders among them.
func testedClasses(t *testing.T, f func(p []int, l *leasts)) {
	t.Helper()
	tried := 0
	eachLeast(func(p []int, l *leasts) {
		if len(p) < 6 || l.count <= 800 && (l.count > 700 && p[0] == 0 || (p[0]+2*p[1]+3*p[3])%5 == 0) {
			tried++
			f(p, l)
		}
	})
	if tried < 200 {
		t.Error("too few orders", tried)
	}
}

func TestClassesOfLeastLadders(t *testing.T) {
	testedClasses(t, func(p []int, l *leasts) {
		firsts, sizes, numbers := classesOf(l.lists)
		if got, ok := impl.SlideClasses(p); !ok || !sameLists(len(p), firsts, got) {
			t.Fatal("classes", p, got, ok)
		}
		if got, ok := impl.SizesOfClasses(p); !ok || !sameInts(got, sizes) {
			t.Fatal("sizes", p, got, ok)
		}
		edges := edgesOf(l.lists, numbers)
		if got, ok := impl.FlipEdges(p); !ok || !slices.EqualFunc(got, edges, slices.Equal[[]int]) {
			t.Fatal("edges", p, got, ok)
		}
	})
}

// TestFlipsJoinAll checks as well that flips reach all classes of each order.
func TestFlipsJoinAll(t *testing.T) {
	testedClasses(t, func(p []int, l *leasts) {
		firsts, _, numbers := classesOf(l.lists)
		farthest := 0
		for i, first := range firsts {
			flips := flipsTo(first)
			if len(flips) != len(l.lists) {
				t.Fatal("not all are joined", p, first)
			}
			want := make([]impl.FlipWay, len(firsts))
			for class, other := range firsts {
				want[class] = impl.FlipWay{Flips: flips[textOf(impl.Ladder{Rungs: other})], Class: class}
				farthest = max(farthest, want[class].Flips)
			}
			// The last ladder of the class instead of its first one.
			from := impl.Ladder{Wires: len(p), Rungs: first}
			for _, rungs := range l.lists {
				if numbers[textOf(impl.Ladder{Rungs: rungs})] == i {
					from.Rungs = rungs
				}
			}
			if got, ok := impl.FlipWays(from); !ok || !slices.Equal(got, want) {
				t.Fatal("ways", from, got, ok)
			}
			// A call sorts all ladders of the order into classes.
			if i%11 == 0 {
				checkFlipsFrom(t, from, l.lists, flips)
			}
		}
		if got, ok := impl.FarthestFlips(p); !ok || got != farthest {
			t.Fatal("farthest", p, got, ok)
		}
	})
}

// checkFlipsFrom compares the flips from a ladder to some others.
func checkFlipsFrom(t *testing.T, from impl.Ladder, lists [][]int, flips map[string]int) {
	t.Helper()
	for i := 0; i < len(lists); i += 1 + len(lists)/7 {
		to := impl.Ladder{Wires: from.Wires, Rungs: lists[i]}
		want := flips[textOf(impl.Ladder{Rungs: lists[i]})]
		if got, ok := impl.FlipsBetween(from, to); !ok || got != want {
			t.Fatal("flips", from, to, got, ok)
		}
		if got, ok := impl.FlipsBetween(to, from); !ok || got != want {
			t.Fatal("flips", to, from, got, ok)
		}
	}
}

func TestFlipsBetweenAllPairs(t *testing.T) {
	results := map[string]orderKey{}
	var ladders []impl.Ladder
	for n := 2; n <= 4; n++ {
		for _, round := range grownLeast(n) {
			for result, l := range round {
				for _, rungs := range l.lists {
					ladders = append(ladders, impl.Ladder{Wires: n, Rungs: rungs})
					results[textOf(ladders[len(ladders)-1])] = result
				}
			}
		}
	}
	for _, a := range ladders {
		flips := flipsTo(a.Rungs)
		for _, b := range ladders {
			same := a.Wires == b.Wires && results[textOf(a)] == results[textOf(b)]
			want := 0
			if same {
				want = flips[textOf(impl.Ladder{Rungs: b.Rungs})]
			}
			if got, ok := impl.FlipsBetween(a, b); ok != same || got != want {
				t.Fatal("flips", a, b, got, ok)
			}
		}
	}
}

func TestNoRungsToFlip(t *testing.T) {
	for n := 2; n <= 6; n++ {
		l := impl.Ladder{Wires: n}
		p := must[[]int](t)(impl.ResultOf(l))
		if must[int](t)(impl.CountLeast(p)) != 1 || must[int](t)(impl.FarthestFlips(p)) != 0 || must[int](t)(impl.RankOfLeast(l)) != 0 {
			t.Error("numbers", n)
		}
		for rung := range n - 1 {
			if must[int](t)(impl.CountFirst(p, rung)) != 0 {
				t.Error("first", n, rung)
			}
		}
		if all := must[[]impl.Ladder](t)(impl.AllLeast(p)); len(all) != 1 || !sameLadder(all[0], l) {
			t.Error("all", all)
		}
		if firsts := must[[]impl.Ladder](t)(impl.SlideClasses(p)); len(firsts) != 1 || !sameLadder(firsts[0], l) {
			t.Error("classes", firsts)
		}
		if sizes := must[[]int](t)(impl.SizesOfClasses(p)); !sameInts(sizes, []int{1}) {
			t.Error("sizes", sizes)
		}
		if edges := must[[][]int](t)(impl.FlipEdges(p)); len(edges) != 0 {
			t.Error("edges", edges)
		}
		if must[int](t)(impl.FlipsBetween(l, impl.Ladder{Wires: n, Rungs: []int{}})) != 0 {
			t.Error("flips", n)
		}
		if ways := must[[]impl.FlipWay](t)(impl.FlipWays(l)); !slices.Equal(ways, []impl.FlipWay{{}}) {
			t.Error("ways", ways)
		}
		if least := must[impl.Ladder](t)(impl.LeastOfRank(p, 0)); !sameLadder(least, l) {
			t.Error("of rank", least)
		}
		fails(t, "LeastOfRank", impl.LeastOfRank, p, 1)
	}
}

func TestTwoLaddersOfOneClass(t *testing.T) {
	a, b := impl.Ladder{Wires: 4, Rungs: []int{0, 2}}, impl.Ladder{Wires: 4, Rungs: []int{2, 0}}
	if must[int](t)(impl.FlipsBetween(a, b)) != 0 || must[int](t)(impl.FlipsBetween(a, a)) != 0 {
		t.Error("flips")
	}
	p := []int{1, 0, 3, 2}
	if sizes := must[[]int](t)(impl.SizesOfClasses(p)); !sameInts(sizes, []int{2}) {
		t.Error("sizes", sizes)
	}
	if must[int](t)(impl.RankOfLeast(a)) != 0 || must[int](t)(impl.RankOfLeast(b)) != 1 {
		t.Error("ranks")
	}
	if must[int](t)(impl.FarthestFlips(p)) != 0 {
		t.Error("farthest")
	}
}
