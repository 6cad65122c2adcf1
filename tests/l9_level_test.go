package tests

import (
	"runtime"
	"slices"
	"testing"
	"time"

	"loop.example/g01209/impl"
)

// This file tests promise 9.

// stackedLevels puts rungs into levels by the words of the document: each into
// the first level behind all that have a rung on the same place or next to it.
func stackedLevels(l impl.Ladder) [][]int {
	var levels [][]int
	for _, rung := range l.Rungs {
		depth := len(levels)
		for depth > 0 && !slices.ContainsFunc(levels[depth-1], func(other int) bool { return max(rung-other, other-rung) <= 1 }) {
			depth--
		}
		if depth == len(levels) {
			levels = append(levels, nil)
		}
		levels[depth] = append(levels[depth], rung)
		slices.Sort(levels[depth])
	}
	return levels
}

func sameLevels(a, b [][]int) bool { return slices.EqualFunc(a, b, sameInts) }

// isFlat reports whether a list is a level of n wires, pair by pair.
func isFlat(n int, list []int) bool {
	for i, rung := range list {
		if rung < 0 || rung >= n-1 {
			return false
		}
		for _, before := range list[:i] {
			if before >= rung || before == rung-1 {
				return false
			}
		}
	}
	return true
}

// flatLists returns all levels of n wires, picked from all sets of rungs.
func flatLists(n int) [][]int {
	var levels [][]int
	eachSet(n-1, func(set []int) {
		if isFlat(n, set) {
			levels = append(levels, set)
		}
	})
	slices.SortFunc(levels, slices.Compare[[]int])
	return levels
}

// widest returns the greatest length of a list.
func widest(lists [][]int) int {
	most := 0
	for _, list := range lists {
		most = max(most, len(list))
	}
	return most
}

// leveledLadders calls f with ladders of all kinds, among them some that have
// many rungs on few levels.
func leveledLadders(f func(l impl.Ladder)) {
	mergedLadders(f)
	mixed := mixer(21)
	for n := 2; n <= impl.MaxWires; n++ {
		levels := flatLists(n)
		for range 30 {
			l := impl.Ladder{Wires: n}
			for range mixed.below(15) {
				l.Rungs = append(l.Rungs, levels[mixed.below(len(levels))]...)
			}
			f(l)
		}
	}
}

func TestExampleOfChapter9(t *testing.T) {
	l := readLadder(t, "4:0,2,1")
	if levels, ok := impl.LevelsOf(l); !ok || !sameLevels(levels, [][]int{{0, 2}, {1}}) {
		t.Error("levels", levels, ok)
	}
	p := []int{2, 1, 0}
	if depth, ok := impl.LeastDepth(p); depth != 3 || !ok {
		t.Error("depth", depth, ok)
	}
	if route, ok := impl.BrickRoute(p); !ok || !sameLevels(route, [][]int{{0}, {1}, {0}}) {
		t.Error("route", route, ok)
	}
	if bricks, ok := impl.BrickLadder(3, 3); textOf(bricks) != "3:0,1,0" || !ok {
		t.Error("bricks", bricks, ok)
	}
	if counts, ok := impl.CountDepths(3); !ok || !sameInts(counts, []int{1, 2, 2, 1}) {
		t.Error("depths", counts, ok)
	}
}

func TestLimitOfChapter9(t *testing.T) {
	if impl.MaxMade != 6 {
		t.Error("MaxMade", impl.MaxMade)
	}
}

func TestLevelsOfLadders(t *testing.T) {
	leveledLadders(func(l impl.Ladder) {
		want := stackedLevels(l)
		if got, ok := impl.LevelsOf(l); !ok || !sameLevels(got, want) {
			t.Fatal("levels", l, got, ok, want)
		}
		if depth, ok := impl.DepthOf(l); depth != len(want) || !ok {
			t.Fatal("depth", l, depth, ok)
		}
		if most, ok := impl.WidestLevel(l); most != widest(want) || !ok {
			t.Fatal("widest", l, most, ok)
		}
	})
}

// TestLevelsKeepResults puts the levels of a ladder together again.
func TestLevelsKeepResults(t *testing.T) {
	leveledLadders(func(l impl.Ladder) {
		levels := must[[][]int](t)(impl.LevelsOf(l))
		for _, level := range levels {
			if is, ok := impl.IsLevel(l.Wires, level); !is || !ok || len(level) == 0 {
				t.Fatal("no level", l, levels)
			}
		}
		again := must[impl.Ladder](t)(impl.LadderOfLevels(l.Wires, levels))
		if !sameInts(resultOf(again), resultOf(l)) || !must[bool](t)(impl.AreSlides(l, again)) {
			t.Fatal("another ladder", l, levels, again)
		}
		if third := must[[][]int](t)(impl.LevelsOf(again)); !sameLevels(levels, third) {
			t.Fatal("other levels", l, levels, third)
		}
	})
}

// TestSlidesKeepLevels slides rungs, and counts the levels that a ladder of
// slides needs at least.
func TestSlidesKeepLevels(t *testing.T) {
	mergedLadders(func(l impl.Ladder) {
		levels := must[[][]int](t)(impl.LevelsOf(l))
		for at := range l.Rungs {
			if slid, ok := impl.SlideRung(l, at); ok {
				if got := must[[][]int](t)(impl.LevelsOf(slid)); !sameLevels(got, levels) {
					t.Fatal("levels behind sliding", l, slid, levels, got)
				}
			}
		}
	})
}

func TestSingleLevels(t *testing.T) {
	for _, c := range []struct {
		text   string
		levels [][]int
	}{
		{"2:-", nil}, {"8:-", nil}, {"2:0", [][]int{{0}}}, {"2:0,0,0", [][]int{{0}, {0}, {0}}}, {"4:2,0", [][]int{{0, 2}}},
		{"4:2,1,0", [][]int{{2}, {1}, {0}}}, {"4:0,1,2,0", [][]int{{0}, {1}, {0, 2}}}, {"5:0,1,3,0", [][]int{{0, 3}, {1}, {0}}},
		{"8:6,4,2,0", [][]int{{0, 2, 4, 6}}}, {"8:6,5,4,3,2,1,0", [][]int{{6}, {5}, {4}, {3}, {2}, {1}, {0}}},
		{"8:0,0,6,6,3,5", [][]int{{0, 3, 6}, {0, 6}, {5}}}, {"6:0,1,3,2,4", [][]int{{0, 3}, {1, 4}, {2}}},
	} {
		l := readLadder(t, c.text)
		if levels, ok := impl.LevelsOf(l); !ok || !sameLevels(levels, c.levels) {
			t.Error("levels", c.text, levels, ok)
		}
		if depth, ok := impl.DepthOf(l); depth != len(c.levels) || !ok {
			t.Error("depth", c.text, depth, ok)
		}
		if most, ok := impl.WidestLevel(l); most != widest(c.levels) || !ok {
			t.Error("widest", c.text, most, ok)
		}
	}
}

func TestLaddersOfLevels(t *testing.T) {
	mixed := mixer(22)
	failed := 0
	for n := 2; n <= impl.MaxWires; n++ {
		all := flatLists(n)
		for _, count := range []int{0, 1, 2, 3, 10, 20, 40, 59, 60, 61} {
			for range 20 {
				levels := make([][]int, count)
				for i := range levels {
					levels[i] = all[mixed.below(len(all))]
				}
				rungs := slices.Concat(levels...)
				got, ok := impl.LadderOfLevels(n, levels)
				if count > 60 || len(rungs) > 60 {
					failed++
					if ok || !sameLadder(got, impl.Ladder{}) {
						t.Fatal("ladder", n, levels, got, ok)
					}
				} else if !ok || !sameLadder(got, impl.Ladder{Wires: n, Rungs: rungs}) {
					t.Fatal("ladder", n, levels, got, ok)
				}
			}
		}
	}
	if failed < 100 {
		t.Error("hardly any that are too great", failed)
	}
}

func TestSingleLaddersOfLevels(t *testing.T) {
	for _, c := range []struct {
		n      int
		levels [][]int
		want   string
	}{
		{2, nil, "2:-"}, {8, [][]int{}, "8:-"}, {2, [][]int{{}}, "2:-"}, {3, [][]int{nil, {1}, nil, {0}, {}}, "3:1,0"},
		{4, [][]int{{0, 2}, {1}}, "4:0,2,1"}, {4, [][]int{{0}, {2}}, "4:0,2"}, {4, [][]int{{2}, {0}}, "4:2,0"}, {2, [][]int{{0}, {0}}, "2:0,0"},
		{8, [][]int{{0, 2, 4, 6}, {1, 3, 5}}, "8:0,2,4,6,1,3,5"},
	} {
		if got, ok := impl.LadderOfLevels(c.n, c.levels); textOf(got) != c.want || !ok {
			t.Error("ladder", c.n, c.levels, got, ok)
		}
	}
}

func TestLevelsAreTold(t *testing.T) {
	for n := 2; n <= impl.MaxWires; n++ {
		found := map[bool]int{}
		check := func(list []int) {
			want := isFlat(n, list)
			if is, ok := impl.IsLevel(n, list); is != want || !ok {
				t.Fatal("level", n, list, is, ok)
			}
			found[want]++
		}
		for length := range 5 {
			eachList(length, n+1, func(list []int) {
				check(list)
				for i := range list {
					list[i]--
				}
				check(list)
			})
		}
		if found[true] == 0 || found[false] == 0 {
			t.Error("not both kinds", n, found)
		}
	}
}

func TestSingleListsAsLevels(t *testing.T) {
	for _, c := range []struct {
		n    int
		list []int
		want bool
	}{
		{2, nil, true}, {2, []int{}, true}, {8, nil, true}, {2, []int{0}, true}, {2, []int{1}, false}, {2, []int{-1}, false},
		{3, []int{0, 1}, false}, {4, []int{0, 2}, true}, {4, []int{2, 0}, false}, {4, []int{0, 0}, false}, {4, []int{0, 3}, false},
		{8, []int{0, 2, 4, 6}, true}, {8, []int{0, 3, 6}, true}, {8, []int{1, 3, 5}, true}, {8, []int{1, 3, 5, 7}, false},
		{8, []int{0, 2, 4, 5}, false}, {8, []int{0, 2, 4, 6, 8}, false}, {8, []int{0, 2, 1, 4}, false},
	} {
		if is, ok := impl.IsLevel(c.n, c.list); is != c.want || !ok {
			t.Error("level", c.n, c.list, is, ok)
		}
	}
}

func TestAllLevels(t *testing.T) {
	for n, count := range map[int]int{2: 2, 3: 3, 4: 5, 5: 8, 6: 13, 7: 21, 8: 34} {
		if got, ok := impl.AllLevels(n); !ok || len(got) != count || !sameLevels(got, flatLists(n)) {
			t.Error("all levels", n, got, ok)
		}
		if got, ok := impl.CountLevels(n); got != count || !ok {
			t.Error("number of levels", n, got, ok)
		}
	}
	if got, ok := impl.AllLevels(5); !ok || !sameLevels(got, [][]int{{}, {0}, {0, 2}, {0, 3}, {1}, {1, 3}, {2}, {3}}) {
		t.Error("all levels of 5 wires", got, ok)
	}
}

// grownLevels returns for each result of n wires the first ones of the fewest
// levels, grown a level at a time at the bottom. Those that come first begin
// with those that come first, so that the first way to a result is kept.
func grownLevels(n int) map[orderKey][][]int {
	all := flatLists(n)
	home := othersOf(n, -1)
	grown := map[orderKey][][]int{keyOf(home): nil}
	for newest := [][][]int{nil}; len(newest) > 0; {
		var longer [][][]int
		for _, levels := range newest {
			for _, level := range all {
				more := append(slices.Clone(levels), level)
				key := keyOf(resultOf(impl.Ladder{Wires: n, Rungs: slices.Concat(more...)}))
				if _, known := grown[key]; !known {
					grown[key] = more
					longer = append(longer, more)
				}
			}
		}
		newest = longer
	}
	return grown
}

func TestFewestLevels(t *testing.T) {
	for n := 2; n <= impl.MaxMade; n++ {
		grown := grownLevels(n)
		var counts []int
		eachOrder(n, func(p []int) {
			want := grown[keyOf(p)]
			for len(counts) <= len(want) {
				counts = append(counts, 0)
			}
			counts[len(want)]++
			if depth, ok := impl.LeastDepth(p); depth != len(want) || !ok {
				t.Fatal("least depth", p, depth, ok, want)
			}
			levels, ok := impl.LeastLevels(p)
			if !ok || !sameLevels(levels, want) {
				t.Fatal("least levels", p, levels, ok, want)
			}
			made := must[impl.Ladder](t)(impl.LadderOfLevels(n, levels))
			if !sameInts(resultOf(made), p) {
				t.Fatal("result of least levels", p, levels, made)
			}
			if depth := must[int](t)(impl.DepthOf(made)); depth != len(want) {
				t.Fatal("depth of least levels", p, levels, depth)
			}
		})
		if got, ok := impl.CountDepths(n); !ok || !sameInts(got, counts) {
			t.Fatal("depths", n, got, ok, counts)
		}
	}
}

// TestFirstOfAllLevels tries all lists of as few levels, in order.
func TestFirstOfAllLevels(t *testing.T) {
	for n := 2; n <= 4; n++ {
		all := flatLists(n)
		eachOrder(n, func(p []int) {
			depth := must[int](t)(impl.LeastDepth(p))
			for shorter := range depth + 1 {
				var first [][]int
				found := false
				eachList(shorter, len(all), func(numbers []int) {
					levels := make([][]int, len(numbers))
					for i, number := range numbers {
						levels[i] = all[number]
					}
					if !found && sameInts(resultOf(impl.Ladder{Wires: n, Rungs: slices.Concat(levels...)}), p) {
						found, first = true, levels
					}
				})
				if found != (shorter == depth) {
					t.Fatal("depth", p, depth, shorter)
				}
				if got, ok := impl.LeastLevels(p); found && (!ok || !sameLevels(got, first)) {
					t.Fatal("least levels", p, got, ok, first)
				}
			}
		})
	}
}

// TestNoLadderIsLessDeep compares the depths of ladders with the least ones.
func TestNoLadderIsLessDeep(t *testing.T) {
	least := map[orderKey]int{}
	for n := 2; n <= impl.MaxMade; n++ {
		eachOrder(n, func(p []int) { least[keyOf(p)] = must[int](t)(impl.LeastDepth(p)) })
	}
	mergedLadders(func(l impl.Ladder) {
		if l.Wires > impl.MaxMade {
			return
		}
		if depth := must[int](t)(impl.DepthOf(l)); depth < least[keyOf(resultOf(l))] {
			t.Fatal("less deep than the least", l, depth)
		}
	})
}

func TestSingleLeastLevels(t *testing.T) {
	for _, c := range []struct {
		p      []int
		levels [][]int
	}{
		{[]int{0, 1}, nil}, {[]int{1, 0}, [][]int{{0}}}, {[]int{0, 1, 2, 3, 4, 5}, nil}, {[]int{2, 0, 1}, [][]int{{0}, {1}}},
		{[]int{1, 2, 0}, [][]int{{1}, {0}}}, {[]int{2, 1, 0}, [][]int{{0}, {1}, {0}}}, {[]int{1, 0, 3, 2}, [][]int{{0, 2}}},
		{[]int{1, 0, 3, 2, 5, 4}, [][]int{{0, 2, 4}}}, {[]int{0, 2, 1, 3, 5, 4}, [][]int{{1, 4}}},
		{[]int{3, 2, 1, 0}, [][]int{{0, 2}, {1}, {0, 2}, {1}}}, {[]int{2, 3, 0, 1}, [][]int{{1}, {0, 2}, {1}}},
	} {
		if levels, ok := impl.LeastLevels(c.p); !ok || !sameLevels(levels, c.levels) {
			t.Error("least levels", c.p, levels, ok)
		}
		if depth, ok := impl.LeastDepth(c.p); depth != len(c.levels) || !ok {
			t.Error("least depth", c.p, depth, ok)
		}
	}
}

func TestDepthsAreCounted(t *testing.T) {
	for n, want := range map[int][]int{2: {1, 1}, 3: {1, 2, 2, 1}, 4: {1, 4, 6, 10, 3}, 5: {1, 7, 16, 35, 46, 15}, 6: {1, 12, 40, 115, 219, 272, 61}} {
		if counts, ok := impl.CountDepths(n); !ok || !sameInts(counts, want) {
			t.Error("depths", n, counts, ok)
		}
	}
	all := 2
	for n := 3; n <= impl.MaxMade; n++ {
		all *= n
		counts := must[[]int](t)(impl.CountDepths(n))
		sum := 0
		for _, count := range counts {
			sum += count
		}
		if sum != all || counts[0] != 1 || counts[1] != must[int](t)(impl.CountLevels(n))-1 || slices.Contains(counts, 0) {
			t.Error("depths", n, counts)
		}
	}
}

// brickRungs returns the rungs that the brick with an index may have.
func brickRungs(n, brick int) []int {
	var rungs []int
	for rung := range n - 1 {
		if (rung+brick)%2 == 0 {
			rungs = append(rungs, rung)
		}
	}
	return rungs
}

func TestBrickLadders(t *testing.T) {
	failed := map[int]int{}
	for n := 2; n <= impl.MaxWires; n++ {
		var rungs []int
		for k := 0; k <= 20; k++ {
			got, ok := impl.BrickLadder(n, k)
			result, fine := impl.BrickOrder(n, k)
			if len(rungs) > 60 {
				failed[n]++
				if ok || fine || !sameLadder(got, impl.Ladder{}) || result != nil {
					t.Fatal("bricks", n, k, got, ok, result, fine)
				}
			} else {
				want := impl.Ladder{Wires: n, Rungs: rungs}
				if !ok || !sameLadder(got, want) {
					t.Fatal("bricks", n, k, got, ok)
				}
				if !fine || !sameInts(result, resultOf(want)) {
					t.Fatal("order of bricks", n, k, result, fine)
				}
			}
			rungs = append(rungs, brickRungs(n, k)...)
		}
	}
	if len(failed) != 1 || failed[8] != 3 {
		t.Error("too many rungs", failed)
	}
}

func TestSingleBricks(t *testing.T) {
	for _, c := range []struct {
		n, k  int
		text  string
		order []int
	}{
		{2, 0, "2:-", []int{0, 1}}, {2, 1, "2:0", []int{1, 0}}, {2, 2, "2:0", []int{1, 0}}, {2, 3, "2:0,0", []int{0, 1}},
		{3, 1, "3:0", []int{1, 0, 2}}, {3, 2, "3:0,1", []int{2, 0, 1}}, {3, 3, "3:0,1,0", []int{2, 1, 0}}, {4, 2, "4:0,2,1", []int{2, 0, 3, 1}},
		{4, 4, "4:0,2,1,0,2,1", []int{3, 2, 1, 0}}, {8, 1, "8:0,2,4,6", []int{1, 0, 3, 2, 5, 4, 7, 6}}, {8, 0, "8:-", []int{0, 1, 2, 3, 4, 5, 6, 7}},
	} {
		if got, ok := impl.BrickLadder(c.n, c.k); textOf(got) != c.text || !ok {
			t.Error("bricks", c.n, c.k, got, ok)
		}
		if got, ok := impl.BrickOrder(c.n, c.k); !sameInts(got, c.order) || !ok {
			t.Error("order of bricks", c.n, c.k, got, ok)
		}
	}
}

// routeOf lets all go down bricks at once: it follows who stands where, and
// asks each where to come out.
func routeOf(p []int) [][]int {
	standing := othersOf(len(p), -1)
	route := make([][]int, len(p))
	for brick := range route {
		for _, rung := range brickRungs(len(p), brick) {
			if a, b := standing[rung], standing[rung+1]; p[a] > p[b] {
				route[brick] = append(route[brick], rung)
				standing[rung], standing[rung+1] = b, a
			}
		}
	}
	return route
}

// routedOrders calls f with all orders of few numbers, and with some of many.
func routedOrders(f func(p []int)) {
	for n := 2; n <= 6; n++ {
		eachOrder(n, f)
	}
	mixed := mixer(23)
	for n := 7; n <= impl.MaxWires; n++ {
		falling := othersOf(n, -1)
		f(slices.Clone(falling))
		slices.Reverse(falling)
		f(falling)
		for range 1000 {
			f(mixed.order(n))
		}
	}
}

func TestBricksRouteEachOrder(t *testing.T) {
	routedOrders(func(p []int) {
		route, ok := impl.BrickRoute(p)
		if !ok || !sameLevels(route, routeOf(p)) {
			t.Fatal("route", p, route, ok)
		}
		made := must[impl.Ladder](t)(impl.LadderOfLevels(len(p), route))
		if !sameInts(resultOf(made), p) {
			t.Fatal("result", p, route, made)
		}
		if !must[bool](t)(impl.IsLeast(made)) {
			t.Fatal("two meet more than once", p, route)
		}
		depth := len(route)
		for depth > 0 && len(route[depth-1]) == 0 {
			depth--
		}
		if got, ok := impl.BrickDepth(p); got != depth || !ok {
			t.Fatal("depth", p, route, got, ok)
		}
	})
}

func TestSingleRoutes(t *testing.T) {
	for _, c := range []struct {
		p     []int
		route [][]int
		depth int
	}{
		{[]int{0, 1}, [][]int{{}, {}}, 0}, {[]int{1, 0}, [][]int{{0}, {}}, 1}, {[]int{0, 2, 1}, [][]int{{}, {1}, {}}, 2},
		{[]int{1, 0, 2}, [][]int{{0}, {}, {}}, 1}, {[]int{2, 0, 1}, [][]int{{0}, {1}, {}}, 2}, {[]int{1, 2, 0}, [][]int{{}, {1}, {0}}, 3},
		{[]int{3, 2, 1, 0}, [][]int{{0, 2}, {1}, {0, 2}, {1}}, 4}, {[]int{1, 0, 3, 2}, [][]int{{0, 2}, {}, {}, {}}, 1},
		{[]int{0, 1, 2, 3, 4, 5, 6, 7}, make([][]int, 8), 0}, {[]int{0, 1, 2, 3, 4, 5, 7, 6}, [][]int{{6}, {}, {}, {}, {}, {}, {}, {}}, 1},
		{[]int{7, 6, 5, 4, 3, 2, 1, 0}, [][]int{{0, 2, 4, 6}, {1, 3, 5}, {0, 2, 4, 6}, {1, 3, 5}, {0, 2, 4, 6}, {1, 3, 5}, {0, 2, 4, 6}, {1, 3, 5}}, 8},
	} {
		if route, ok := impl.BrickRoute(c.p); !ok || !sameLevels(route, c.route) {
			t.Error("route", c.p, route, ok)
		}
		if depth, ok := impl.BrickDepth(c.p); depth != c.depth || !ok {
			t.Error("depth", c.p, depth, ok)
		}
	}
}

// TestWiresEnd calls what lets wires go down many times and then waits until
// no goroutine is left of it.
func TestWiresEnd(t *testing.T) {
	before := runtime.NumGoroutine()
	mixed := mixer(24)
	for range 500 {
		l := impl.Ladder{Wires: 8}
		for range 60 {
			l.Rungs = append(l.Rungs, mixed.below(7))
		}
		must[[][]int](t)(impl.LevelsOf(l))
		must[[][]int](t)(impl.BrickRoute(mixed.order(8)))
	}
	for range 1000 {
		if runtime.NumGoroutine() <= before {
			return
		}
		time.Sleep(time.Millisecond)
	}
	t.Error("goroutines are left", before, runtime.NumGoroutine())
}
