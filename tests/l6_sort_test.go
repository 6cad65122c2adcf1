package tests

import (
	"math"
	"slices"
	"testing"

	"loop.example/g01209/impl"
)

// This file tests promise 6.

// comparing is what comes of values that are compared in one list, a rung at a
// time.
type comparing struct{ bottom, exchanges []int }

func comparingOf(l impl.Ladder, values []int) comparing {
	c := comparing{bottom: slices.Clone(values)}
	for i, rung := range l.Rungs {
		if left, right := c.bottom[rung], c.bottom[rung+1]; left > right {
			c.bottom[rung], c.bottom[rung+1] = right, left
			c.exchanges = append(c.exchanges, i)
		}
	}
	return c
}

func isSortedBy(l impl.Ladder, values []int) bool {
	return slices.IsSorted(comparingOf(l, values).bottom)
}

// eachList calls f with all lists of n of the numbers 0..numbers-1, in order.
func eachList(n, numbers int, f func(list []int)) {
	list := make([]int, n)
	for {
		f(slices.Clone(list))
		i := n - 1
		for ; i >= 0 && list[i] == numbers-1; i-- {
			list[i] = 0
		}
		if i < 0 {
			return
		}
		list[i]++
	}
}

func eachBits(n int, f func(bits []int)) { eachList(n, 2, f) }

// bubbled returns the rungs of n wires that bring the greatest number to the
// right, then the next one, and so on.
func bubbled(n int) []int {
	var rungs []int
	for last := n - 2; last >= 0; last-- {
		for rung := 0; rung <= last; rung++ {
			rungs = append(rungs, rung)
		}
	}
	return rungs
}

// sortingLadders calls f with ladders that sort, that nearly do so, and that
// have more rungs than they need.
func sortingLadders(f func(l impl.Ladder)) {
	for n := 2; n <= impl.MaxWires; n++ {
		right := bubbled(n)
		left := slices.Clone(right)
		for i, rung := range left {
			left[i] = n - 2 - rung
		}
		turned := slices.Clone(right)
		slices.Reverse(turned)
		for _, rungs := range [][]int{right, left, turned} {
			f(impl.Ladder{Wires: n, Rungs: rungs})
			f(impl.Ladder{Wires: n, Rungs: slices.Concat(rungs, right)})
			for at := range rungs {
				f(impl.Ladder{Wires: n, Rungs: slices.Delete(slices.Clone(rungs), at, at+1)})
				f(impl.Ladder{Wires: n, Rungs: slices.Insert(slices.Clone(rungs), at, rungs[at])})
			}
		}
	}
}

// comparedLadders calls f with ladders of all kinds.
func comparedLadders(f func(l impl.Ladder)) {
	someLadders(f)
	sortingLadders(f)
}

// triedLadders calls f with those for which all orders are compared.
func triedLadders(f func(l impl.Ladder)) {
	comparedLadders(func(l impl.Ladder) {
		if l.Wires <= 6 {
			f(l)
		}
	})
}

// tellingLists returns lists of n values that tell all of a ladder: all orders,
// and all lists of few numbers, among them equal ones. For many wires there
// are only noughts and ones and some others.
func tellingLists(n int) [][]int {
	var lists [][]int
	add := func(list []int) { lists = append(lists, list) }
	eachBits(n, add)
	if n <= 6 {
		eachOrder(n, add)
	}
	if n <= 4 {
		eachList(n, n, add)
	}
	return append(lists, someValues(n)...)
}

// allTellingLists returns the telling lists by their lengths.
func allTellingLists() map[int][][]int {
	all := map[int][][]int{}
	for n := 2; n <= impl.MaxWires; n++ {
		all[n] = tellingLists(n)
	}
	return all
}

// someValues returns lists of n values: mixed ones, equal ones, and those far
// away from each other.
func someValues(n int) [][]int {
	far := []int{math.MaxInt, math.MinInt, 0, math.MaxInt, -1, math.MinInt, math.MaxInt - 1, math.MinInt + 1}
	equal, sorted, falling := make([]int, n), make([]int, n), make([]int, n)
	for i := range n {
		equal[i], sorted[i], falling[i] = math.MinInt, i*i-5, -i*1000
	}
	lists := [][]int{far[:n], equal, sorted, falling}
	mixed := mixer(uint32(n))
	for range 20 {
		list := make([]int, n)
		for i := range list {
			list[i] = far[mixed.below(len(far))]
		}
		few := make([]int, n)
		for i := range few {
			few[i] = mixed.below(4) - 2
		}
		lists = append(lists, list, few, mixed.order(n))
	}
	return lists
}

func TestExampleOfChapter6(t *testing.T) {
	read := func(s string) impl.Ladder { return must[impl.Ladder](t)(impl.ParseLadder(s)) }
	values := []int{2, 1, 0}
	for depth, want := range [][]int{{2, 1, 0}, {1, 2, 0}, {1, 0, 2}, {0, 1, 2}} {
		l := impl.Ladder{Wires: 3, Rungs: []int{0, 1, 0}[:depth]}
		if got := must[[]int](t)(impl.SortedBy(l, values)); !sameInts(got, want) {
			t.Error("behind rungs", depth, got)
		}
	}
	for s, want := range map[string]bool{"3:0,1,0": true, "3:1,0,1": true, "3:0,1": false, "3:0,0,1": false} {
		if is, ok := impl.IsSorting(read(s)); is != want || !ok {
			t.Error("sorting", s, is, ok)
		}
	}
	if got := must[[]int](t)(impl.SortedBy(read("3:0,1"), []int{1, 2, 0})); !sameInts(got, []int{1, 0, 2}) {
		t.Error("sorted", got)
	}
	if idle := must[[]int](t)(impl.IdleRungs(read("3:0,0,1"))); !sameInts(idle, []int{1}) {
		t.Error("idle", idle)
	}
	if l := must[impl.Ladder](t)(impl.DropIdle(read("3:0,0,1"))); textOf(l) != "3:0,1" {
		t.Error("without idle rungs", l)
	}
	if p := must[[]int](t)(impl.FirstUnsorted(read("3:0,1"))); !sameInts(p, []int{1, 2, 0}) {
		t.Error("unsorted", p)
	}
}

func TestValuesAreCompared(t *testing.T) {
	values := map[int][][]int{}
	for n := 2; n <= impl.MaxWires; n++ {
		values[n] = someValues(n)
	}
	comparedLadders(func(l impl.Ladder) {
		for _, list := range values[l.Wires] {
			want := comparingOf(l, list)
			if got, ok := impl.SortedBy(l, list); !ok || !sameInts(got, want.bottom) {
				t.Fatal("sorted", l, list, got, ok)
			}
			if got, ok := impl.ExchangesOf(l, list); !ok || !sameInts(got, want.exchanges) {
				t.Fatal("exchanges", l, list, got, ok)
			}
		}
	})
}

func TestEqualValuesStay(t *testing.T) {
	l := impl.Ladder{Wires: 4, Rungs: []int{0, 1, 2, 0, 1, 0}}
	for _, c := range []struct{ values, bottom, exchanges []int }{
		{[]int{7, 7, 7, 7}, []int{7, 7, 7, 7}, nil},
		{[]int{3, 3, 1, 1}, []int{1, 1, 3, 3}, []int{1, 2, 3, 4}},
		{[]int{2, 1, 2, 1}, []int{1, 1, 2, 2}, []int{0, 2, 4}},
		{[]int{math.MaxInt, math.MaxInt, math.MinInt, 0}, []int{math.MinInt, 0, math.MaxInt, math.MaxInt}, []int{1, 2, 3, 4}},
		{[]int{math.MinInt, math.MaxInt, math.MinInt, math.MinInt}, []int{math.MinInt, math.MinInt, math.MinInt, math.MaxInt}, []int{1, 2}},
	} {
		if got, ok := impl.SortedBy(l, c.values); !ok || !sameInts(got, c.bottom) {
			t.Error("sorted", c.values, got, ok)
		}
		if got, ok := impl.ExchangesOf(l, c.values); !ok || !sameInts(got, c.exchanges) {
			t.Error("exchanges", c.values, got, ok)
		}
	}
}

// TestSortingAllExactlyIf compares what a ladder does with all lists, with all
// lists of noughts and ones, and with the falling order.
func TestSortingAllExactlyIf(t *testing.T) {
	telling := allTellingLists()
	found := map[bool]map[int]int{true: {}, false: {}}
	comparedLadders(func(l impl.Ladder) {
		want, wantBits, bitsSorted := true, true, 0
		for _, list := range telling[l.Wires] {
			want = want && isSortedBy(l, list)
		}
		eachBits(l.Wires, func(bits []int) {
			if isSortedBy(l, bits) {
				bitsSorted++
			} else {
				wantBits = false
			}
		})
		if want != wantBits {
			t.Fatal("noughts and ones tell something else", l)
		}
		if is, ok := impl.IsSorting(l); is != want || !ok {
			t.Fatal("sorting", l, is, ok)
		}
		if count, ok := impl.CountBitsSorted(l); count != bitsSorted || !ok {
			t.Fatal("noughts and ones sorted", l, count, ok)
		}
		found[want][l.Wires]++
	})
	for n := 2; n <= impl.MaxWires; n++ {
		if found[true][n] == 0 || found[false][n] == 0 {
			t.Error("not both kinds", n, found)
		}
	}
}

func TestOrdersSorted(t *testing.T) {
	triedLadders(func(l impl.Ladder) {
		sorted := 0
		var first []int
		eachOrder(l.Wires, func(p []int) {
			if isSortedBy(l, p) {
				sorted++
			} else if first == nil {
				first = p
			}
		})
		if count, ok := impl.CountSorted(l); count != sorted || !ok {
			t.Fatal("sorted", l, count, ok)
		}
		if p, ok := impl.FirstUnsorted(l); ok != (first != nil) || !sameInts(p, first) {
			t.Fatal("first unsorted", l, p, ok)
		}
	})
}

func TestFirstBitsUnsorted(t *testing.T) {
	comparedLadders(func(l impl.Ladder) {
		var first []int
		eachBits(l.Wires, func(bits []int) {
			if first == nil && !isSortedBy(l, bits) {
				first = bits
			}
		})
		if bits, ok := impl.FirstBitsUnsorted(l); ok != (first != nil) || !sameInts(bits, first) {
			t.Fatal("first unsorted", l, bits, ok)
		}
	})
}

// idleOf returns the rungs at which none of some lists makes an exchange.
func idleOf(l impl.Ladder, lists [][]int) []int {
	busy := map[int]bool{}
	for _, list := range lists {
		for _, at := range comparingOf(l, list).exchanges {
			busy[at] = true
		}
	}
	var idle []int
	for at := range l.Rungs {
		if !busy[at] {
			idle = append(idle, at)
		}
	}
	return idle
}

func TestIdleRungs(t *testing.T) {
	telling := allTellingLists()
	comparedLadders(func(l impl.Ladder) {
		want := idleOf(l, telling[l.Wires])
		if idle, ok := impl.IdleRungs(l); !ok || !sameInts(idle, want) {
			t.Fatal("idle", l, idle, ok, want)
		}
		var others []int
		for at, rung := range l.Rungs {
			if !slices.Contains(want, at) {
				others = append(others, rung)
			}
		}
		dropped, ok := impl.DropIdle(l)
		if !ok || !sameLadder(dropped, impl.Ladder{Wires: l.Wires, Rungs: others}) {
			t.Fatal("without idle rungs", l, dropped, ok)
		}
		for _, list := range telling[l.Wires] {
			if !sameInts(comparingOf(l, list).bottom, comparingOf(dropped, list).bottom) {
				t.Fatal("sorts another way", l, dropped, list)
			}
		}
	})
}

// TestIdleRungsOfManyWires takes all orders of 7 and of 8 numbers for a few
// ladders.
func TestIdleRungsOfManyWires(t *testing.T) {
	mixed := mixer(8)
	for n := 7; n <= impl.MaxWires; n++ {
		var orders [][]int
		eachOrder(n, func(p []int) { orders = append(orders, p) })
		for k := 0; k <= impl.MaxRungs; k += 10 {
			l := impl.Ladder{Wires: n, Rungs: make([]int, k)}
			for i := range l.Rungs {
				l.Rungs[i] = mixed.below(n - 1)
			}
			if idle, ok := impl.IdleRungs(l); !ok || !sameInts(idle, idleOf(l, orders)) {
				t.Fatal("idle", l, idle, ok)
			}
		}
	}
}

func TestBubbleLadders(t *testing.T) {
	for n, want := range map[int]string{2: "2:0", 3: "3:0,1,0", 4: "4:0,1,2,0,1,0", 5: "5:0,1,2,3,0,1,2,0,1,0"} {
		if l := must[impl.Ladder](t)(impl.BubbleLadder(n)); textOf(l) != want {
			t.Error("bubble", n, l)
		}
	}
	for n := 2; n <= impl.MaxWires; n++ {
		l, ok := impl.BubbleLadder(n)
		if !ok || !sameLadder(l, impl.Ladder{Wires: n, Rungs: bubbled(n)}) {
			t.Error("bubble", n, l, ok)
		}
		if is, ok := impl.IsSorting(l); !is || !ok {
			t.Error("not sorting", n)
		}
	}
}

func TestOddEvenLadders(t *testing.T) {
	for _, c := range []struct {
		n, levels int
		text      string
	}{
		{2, 0, "2:-"}, {2, 1, "2:0"}, {2, 2, "2:0"}, {2, 3, "2:0,0"}, {2, 10, "2:0,0,0,0,0"}, {3, 0, "3:-"}, {3, 3, "3:0,1,0"},
		{3, 10, "3:0,1,0,1,0,1,0,1,0,1"}, {4, 1, "4:0,2"}, {4, 4, "4:0,2,1,0,2,1"}, {5, 2, "5:0,2,1,3"}, {5, 3, "5:0,2,1,3,0,2"},
		{6, 3, "6:0,2,4,1,3,0,2,4"}, {7, 2, "7:0,2,4,1,3,5"}, {8, 0, "8:-"}, {8, 3, "8:0,2,4,6,1,3,5,0,2,4,6"},
		{8, 10, "8:0,2,4,6,1,3,5,0,2,4,6,1,3,5,0,2,4,6,1,3,5,0,2,4,6,1,3,5,0,2,4,6,1,3,5"},
	} {
		if l, ok := impl.OddEvenLadder(c.n, c.levels); !ok || textOf(l) != c.text {
			t.Error("odd and even", c.n, c.levels, l, ok)
		}
	}
	for n := 2; n <= impl.MaxWires; n++ {
		for levels := 0; levels <= 10; levels++ {
			l := must[impl.Ladder](t)(impl.OddEvenLadder(n, levels))
			is, ok := impl.IsSorting(l)
			// The second level of two wires is empty.
			if want := levels >= n || n == 2 && levels == 1; is != want || !ok {
				t.Error("sorting", n, levels, is, ok)
			}
		}
	}
}

// fewestSorting returns the least number of rungs that sort the falling order
// of n numbers.
func fewestSorting(n int) int {
	falling := make([]int, n)
	for i := range falling {
		falling[i] = n - 1 - i
	}
	seen := map[orderKey]bool{keyOf(falling): true}
	last := []orderKey{keyOf(falling)}
	for rungs := 0; ; rungs++ {
		var next []orderKey
		for _, p := range last {
			if slices.IsSorted(p[:n]) {
				return rungs
			}
			for rung := range n - 1 {
				q := p
				q[rung], q[rung+1] = min(p[rung], p[rung+1]), max(p[rung], p[rung+1])
				if !seen[q] {
					seen[q] = true
					next = append(next, q)
				}
			}
		}
		last = next
	}
}

func TestLeastSorting(t *testing.T) {
	for n := 2; n <= impl.MaxWires; n++ {
		want := fewestSorting(n)
		if count, ok := impl.LeastSorting(n); count != want || count != n*(n-1)/2 || !ok {
			t.Error("least", n, count, ok, want)
		}
	}
	for n := 2; n <= 4; n++ {
		fewest := map[bool]int{}
		eachLadder(n, n*(n-1)/2, func(l impl.Ladder) {
			is := must[bool](t)(impl.IsSorting(l))
			if fewest[is] == 0 || len(l.Rungs) < fewest[is] {
				fewest[is] = len(l.Rungs)
			}
		})
		if count := must[int](t)(impl.LeastSorting(n)); count != fewest[true] {
			t.Error("least", n, count, fewest)
		}
	}
}

func TestWorstOrders(t *testing.T) {
	triedLadders(func(l impl.Ladder) {
		most := 0
		worst := [][]int{}
		eachOrder(l.Wires, func(p []int) {
			count := len(comparingOf(l, p).exchanges)
			if count > most {
				most, worst = count, nil
			}
			if count == most {
				worst = append(worst, p)
			}
		})
		if p, count, ok := impl.WorstOrder(l); !ok || count != most || !sameInts(p, worst[0]) {
			t.Fatal("worst", l, p, count, ok, worst)
		}
	})
	for s, want := range map[string][]int{"3:0,1,0": {2, 1, 0}, "3:0,1": {2, 0, 1}, "3:1": {0, 2, 1}, "6:-": {0, 1, 2, 3, 4, 5}} {
		l := must[impl.Ladder](t)(impl.ParseLadder(s))
		if p, count, ok := impl.WorstOrder(l); !ok || count != len(l.Rungs) || !sameInts(p, want) {
			t.Error("worst", s, p, count, ok)
		}
	}
}

// passesOf returns how many greater values the one that has most of them has
// before it: each time, one of these passes it.
func passesOf(values []int) int {
	most := 0
	for i, value := range values {
		greater := 0
		for _, before := range values[:i] {
			if before > value {
				greater++
			}
		}
		most = max(most, greater)
	}
	return most
}

func TestPasses(t *testing.T) {
	check := func(values []int) {
		t.Helper()
		if count, ok := impl.PassesOf(values); count != passesOf(values) || !ok {
			t.Fatal("passes", values, count, ok)
		}
	}
	for n := 0; n <= 6; n++ {
		eachOrder(n, check)
		eachList(n, 3, check)
	}
	for n := 2; n <= impl.MaxWires; n++ {
		for _, values := range someValues(n) {
			check(values)
		}
	}
	mixed := mixer(9)
	for _, n := range []int{9, 50, 99, 100} {
		for _, numbers := range []int{1, 2, 5, 1000} {
			list := make([]int, n)
			for i := range list {
				list[i] = (mixed.below(numbers) - numbers/2) * (math.MaxInt / 1000)
			}
			check(list)
		}
	}
}

func TestPassesOfSingleLists(t *testing.T) {
	falling, rising, last := make([]int, 100), make([]int, 100), make([]int, 100)
	for i := range 100 {
		falling[i], rising[i] = -i, i
	}
	last[99] = math.MinInt
	for _, c := range []struct {
		values []int
		passes int
	}{
		{nil, 0}, {[]int{}, 0}, {[]int{math.MinInt}, 0}, {[]int{1, 2}, 0}, {[]int{2, 1}, 1}, {[]int{5, 5, 5}, 0}, {[]int{3, 1, 2}, 1},
		{[]int{2, 3, 1}, 2}, {[]int{1, 1, 0, 0}, 2}, {[]int{math.MaxInt, math.MinInt}, 1}, {[]int{math.MinInt, math.MaxInt}, 0},
		{falling, 99}, {rising, 0}, {last, 99}, {make([]int, 100), 0},
	} {
		if count, ok := impl.PassesOf(c.values); count != c.passes || !ok {
			t.Error("passes", c.values, count, ok)
		}
	}
}

// sortsFirst tells whether some lists come out with their least numbers first.
func sortsFirst(l impl.Ladder, lists [][]int) []bool {
	is := make([]bool, l.Wires+1)
	for k := range is {
		is[k] = true
	}
	for _, list := range lists {
		bottom := comparingOf(l, list).bottom
		for wire, number := range slices.Sorted(slices.Values(list)) {
			if bottom[wire] != number {
				for k := wire + 1; k < len(is); k++ {
					is[k] = false
				}
			}
		}
	}
	return is
}

func TestSortsFirst(t *testing.T) {
	telling := allTellingLists()
	check := func(l impl.Ladder) int {
		most := 0
		for k, want := range sortsFirst(l, telling[l.Wires]) {
			if is, ok := impl.SortsFirst(l, k); is != want || !ok {
				t.Fatal("sorts first", l, k, is, ok)
			}
			if want {
				most = k
			}
		}
		return most
	}
	comparedLadders(func(l impl.Ladder) { check(l) })
	for n := 2; n <= impl.MaxWires; n++ {
		l := impl.Ladder{Wires: n}
		for k := 1; k < n; k++ {
			// These rungs bring the next one of the least numbers to the left.
			for rung := n - 2; rung >= k-1; rung-- {
				l.Rungs = append(l.Rungs, rung)
			}
			want := k
			if k == n-1 {
				want = n
			}
			if most := check(l); most != want {
				t.Error("first ones", l, most)
			}
		}
	}
}

func TestLeastBeginnings(t *testing.T) {
	telling := allTellingLists()
	found := 0
	comparedLadders(func(l impl.Ladder) {
		want, sorting := 0, false
		for k := 0; k <= len(l.Rungs) && !sorting; k++ {
			beginning := impl.Ladder{Wires: l.Wires, Rungs: l.Rungs[:k]}
			if !slices.ContainsFunc(telling[l.Wires], func(list []int) bool { return !isSortedBy(beginning, list) }) {
				want, sorting = k, true
			}
		}
		if count, ok := impl.LeastBeginning(l); count != want || ok != sorting {
			t.Fatal("beginning", l, count, ok, want)
		}
		if sorting && want < len(l.Rungs) {
			found++
		}
	})
	if found == 0 {
		t.Error("no ladder goes on behind a beginning that sorts")
	}
}

func TestComparingWithoutRungs(t *testing.T) {
	for n := 2; n <= impl.MaxWires; n++ {
		for _, l := range []impl.Ladder{{Wires: n}, {Wires: n, Rungs: []int{}}} {
			checkBareComparing(t, l)
		}
	}
}

func checkBareComparing(t *testing.T, l impl.Ladder) {
	t.Helper()
	n := l.Wires
	for _, list := range someValues(n) {
		if got, ok := impl.SortedBy(l, list); !ok || !sameInts(got, list) {
			t.Error("sorted", l, list, got, ok)
		}
		if got, ok := impl.ExchangesOf(l, list); !ok || len(got) != 0 {
			t.Error("exchanges", l, list, got, ok)
		}
	}
	if is, ok := impl.IsSorting(l); is || !ok {
		t.Error("sorting", l, is, ok)
	}
	if count, ok := impl.CountBitsSorted(l); count != n+1 || !ok {
		t.Error("noughts and ones sorted", l, count, ok)
	}
	last := make([]int, n)
	last[n-2] = 1
	if bits, ok := impl.FirstBitsUnsorted(l); !sameInts(bits, last) || !ok {
		t.Error("first unsorted", l, bits, ok)
	}
	if idle, ok := impl.IdleRungs(l); !ok || len(idle) != 0 {
		t.Error("idle", l, idle, ok)
	}
	if dropped, ok := impl.DropIdle(l); !ok || !sameLadder(dropped, l) {
		t.Error("without idle rungs", l, dropped, ok)
	}
	for k := range n + 1 {
		if is, ok := impl.SortsFirst(l, k); is != (k == 0) || !ok {
			t.Error("sorts first", l, k, is, ok)
		}
	}
	if count, ok := impl.LeastBeginning(l); count != 0 || ok {
		t.Error("beginning", l, count, ok)
	}
}
