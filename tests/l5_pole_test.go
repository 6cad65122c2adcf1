package tests

import (
	"slices"
	"strings"
	"testing"

	"loop.example/g01209/impl"
)

// This file tests promise 5.

// mixer makes numbers that look mixed, always the same ones.
type mixer uint32

// below returns a number in 0..n - 1.
func (m *mixer) below(n int) int {
	*m = *m*1664525 + 1013904223
	return int(*m>>16) % n
}

// order returns an order of n numbers.
func (m *mixer) order(n int) []int {
	p := make([]int, n)
	for i := range p {
		other := m.below(i + 1)
		p[i], p[other] = p[other], i
	}
	return p
}

// eachPole calls f with all poles of n wires and at most most rungs.
func eachPole(n, most int, f func(l impl.Pole)) {
	// A ladder of one wire more has as many places for rungs.
	eachLadder(n+1, most, func(l impl.Ladder) { f(impl.Pole{Wires: n, Rungs: l.Rungs}) })
}

// somePoles calls f with all small poles, with poles of all numbers of wires
// and of rungs, and with those around which some go all the time.
func somePoles(f func(l impl.Pole)) {
	eachPole(3, 6, f)
	eachPole(4, 4, f)
	eachPole(7, 2, f)
	mixed := mixer(5)
	for n := 3; n <= impl.MaxWires; n++ {
		for k := 0; k <= impl.MaxRungs; k++ {
			some, up, down := make([]int, k), make([]int, k), make([]int, k)
			for i := range k {
				some[i] = mixed.below(n)
				up[i] = (i + k) % n
				down[k-1-i] = i % n
			}
			for _, rungs := range [][]int{some, up, down} {
				f(impl.Pole{Wires: n, Rungs: rungs})
			}
		}
	}
}

// someTurned calls f with turned orders of all numbers of wires, among them
// those with the greatest winds.
func someTurned(f func(t impl.Turned)) {
	mixed := mixer(6)
	for n := 3; n <= impl.MaxWires; n++ {
		for _, most := range []int{0, 1, 2, 5, 20} {
			for range 20 {
				t := impl.Turned{Ends: mixed.order(n), Winds: make([]int, n)}
				for range 3 * most {
					from, to := mixed.below(n), mixed.below(n)
					by := mixed.below(most) + 1
					if t.Winds[from]-by >= -most && t.Winds[to]+by <= most {
						t.Winds[from] -= by
						t.Winds[to] += by
					}
				}
				f(t)
			}
		}
		extreme := impl.Turned{Ends: mixed.order(n), Winds: make([]int, n)}
		for i := range n / 2 {
			extreme.Winds[i], extreme.Winds[n-1-i] = 20, -20
		}
		f(extreme)
		extreme.Ends, extreme.Winds = slices.Clone(extreme.Ends), slices.Clone(extreme.Winds)
		slices.Reverse(extreme.Winds)
		f(extreme)
	}
}

// around is what follows when all go down a pole at once.
type around struct {
	ways   [][]int
	result impl.Turned
}

func aroundOf(l impl.Pole) around {
	a := around{ways: make([][]int, l.Wires), result: unturned(l.Wires)}
	standing := slices.Clone(a.result.Ends)
	for start := range a.ways {
		a.ways[start] = []int{start}
	}
	for _, rung := range l.Rungs {
		next := rung + 1
		if next == l.Wires {
			next = 0
			a.result.Winds[standing[rung]]++
			a.result.Winds[standing[next]]--
		}
		standing[rung], standing[next] = standing[next], standing[rung]
		for wire, start := range standing {
			a.ways[start] = append(a.ways[start], wire)
		}
	}
	for wire, start := range standing {
		a.result.Ends[start] = wire
	}
	return a
}

// unturned returns the turned order that leaves all as it is.
func unturned(n int) impl.Turned {
	t := impl.Turned{Ends: make([]int, n), Winds: make([]int, n)}
	for i := range t.Ends {
		t.Ends[i] = i
	}
	return t
}

func sameTurned(a, b impl.Turned) bool {
	return slices.Equal(a.Ends, b.Ends) && slices.Equal(a.Winds, b.Winds)
}

func samePole(a, b impl.Pole) bool { return a.Wires == b.Wires && slices.Equal(a.Rungs, b.Rungs) }

// placeIn returns the place of i by going on from wire to wire.
func placeIn(t impl.Turned, i int) int {
	n, more := len(t.Ends), 0
	for ; i < 0; i += n {
		more -= n
	}
	for ; i >= n; i -= n {
		more += n
	}
	return t.Ends[i] + n*t.Winds[i] + more
}

// poleInversions counts the inversions of a turned order pair by pair.
func poleInversions(t impl.Turned) int {
	n, count := len(t.Ends), 0
	for i := range n {
		// Places are less than 21 rounds away from where one starts.
		for j := i + 1; j < i+45*n; j++ {
			if placeIn(t, i) > placeIn(t, j) {
				count++
			}
		}
	}
	return count
}

func TestExampleOfChapter5(t *testing.T) {
	l := impl.Pole{Wires: 3, Rungs: []int{2}}
	if s, ok := impl.PoleText(l); s != "3*2" || !ok {
		t.Error("text", s, ok)
	}
	if wire, winds, ok := impl.PoleEnd(l, 2); wire != 0 || winds != 1 || !ok {
		t.Error("from 2", wire, winds, ok)
	}
	if wire, winds, ok := impl.PoleEnd(l, 0); wire != 2 || winds != -1 || !ok {
		t.Error("from 0", wire, winds, ok)
	}
	r := must[impl.Turned](t)(impl.PoleResult(l))
	if !sameTurned(r, impl.Turned{Ends: []int{2, 1, 0}, Winds: []int{-1, 0, 1}}) {
		t.Error("result", r)
	}
	if a, b := must[int](t)(impl.PlaceOf(r, 2)), must[int](t)(impl.PlaceOf(r, 3)); a != 3 || b != 2 {
		t.Error("places", a, b)
	}
	if count := must[int](t)(impl.PoleInversions(r)); count != 1 {
		t.Error("inversions", count)
	}
	least := impl.Pole{Wires: 3, Rungs: []int{0, 1, 2}}
	if is := must[bool](t)(impl.IsLeastPole(least)); !is {
		t.Error("3*0,1,2 is not least")
	}
	if count := must[int](t)(impl.PoleInversions(must[impl.Turned](t)(impl.PoleResult(least)))); count != 3 {
		t.Error("inversions of 3*0,1,2", count)
	}
}

func TestLimitOfChapter5(t *testing.T) {
	if impl.MaxWinding != 20 {
		t.Error("MaxWinding", impl.MaxWinding)
	}
}

func TestWaysAroundPoles(t *testing.T) {
	somePoles(func(l impl.Pole) {
		want := aroundOf(l)
		for start := range l.Wires {
			if way, ok := impl.PoleWay(l, start); !ok || !sameInts(way, want.ways[start]) {
				t.Fatal("way", l, start, way, ok)
			}
			wire, winds, ok := impl.PoleEnd(l, start)
			if !ok || wire != want.result.Ends[start] || winds != want.result.Winds[start] {
				t.Fatal("end", l, start, wire, winds, ok)
			}
		}
		if result, ok := impl.PoleResult(l); !ok || !sameTurned(result, want.result) || !impl.IsTurned(result) {
			t.Fatal("result", l, result, ok)
		}
	})
}

func TestWindsAddUpToNothing(t *testing.T) {
	greatest := 0
	somePoles(func(l impl.Pole) {
		sum := 0
		for _, winds := range must[impl.Turned](t)(impl.PoleResult(l)).Winds {
			greatest = max(greatest, winds, -winds)
			sum += winds
		}
		if sum != 0 {
			t.Fatal("sum of winds", l, sum)
		}
	})
	if greatest != impl.MaxWinding {
		t.Error("greatest winds", greatest)
	}
}

func TestPlaces(t *testing.T) {
	someTurned(func(turned impl.Turned) {
		for i := -1000; i <= 1000; i++ {
			if place, ok := impl.PlaceOf(turned, i); !ok || place != placeIn(turned, i) {
				t.Fatal("place", turned, i, place, ok)
			}
		}
	})
	far := impl.Turned{Ends: []int{1, 2, 0}, Winds: []int{0, 20, -20}}
	for i, want := range map[int]int{-2: 59, 1: 62, 2: -60, -1: -63, 1000: 1061, -1000: -1062, 999: 1000, -999: -998} {
		if place := must[int](t)(impl.PlaceOf(far, i)); place != want {
			t.Error("far place", i, place)
		}
	}
}

func TestPoleInversionsPairByPair(t *testing.T) {
	most := 0
	someTurned(func(turned impl.Turned) {
		count, ok := impl.PoleInversions(turned)
		if !ok || count != poleInversions(turned) {
			t.Fatal("inversions", turned, count, ok)
		}
		most = max(most, count)
		var descents []int
		for i := range turned.Ends {
			if placeIn(turned, i) > placeIn(turned, i+1) {
				descents = append(descents, i)
			}
		}
		if got, ok := impl.PoleDescents(turned); !ok || !sameInts(got, descents) {
			t.Fatal("descents", turned, got, ok)
		}
	})
	// The number of inversions has no limit of its own.
	if most <= 16*39 {
		t.Error("most inversions", most)
	}
	somePoles(func(l impl.Pole) {
		result := aroundOf(l).result
		count := poleInversions(result)
		if got, ok := impl.PoleInversions(result); !ok || got != count {
			t.Fatal("inversions of a result", l, got, ok)
		}
		if is, ok := impl.IsLeastPole(l); !ok || is != (count == len(l.Rungs)) {
			t.Fatal("least", l, is, ok)
		}
	})
}

// turnedKey is a turned order as a key of a map.
type turnedKey struct{ ends, winds orderKey }

// leastPoles tells of the shortest poles with one result which of them is the
// first one, and with which rungs they begin.
type leastPoles struct {
	first  []int
	begins [impl.MaxWires]bool
}

// grownPoles returns, for each number of rungs up to most, the results of n
// wires for which so many are needed. It grows all shortest poles, a rung a
// round: a rung at the bottom moves those who come out there.
func grownPoles(n, most int) []map[turnedKey]*leastPoles {
	home := turnedKey{ends: keyOf(unturned(n).Ends)}
	levels := []map[turnedKey]*leastPoles{{home: {}}}
	old := map[turnedKey]bool{home: true}
	for len(levels) <= most {
		level := map[turnedKey]*leastPoles{}
		for key, shorter := range levels[len(levels)-1] {
			for rung := range n {
				next := key.over(n, rung)
				if old[next] {
					continue
				}
				if level[next] == nil {
					level[next] = &leastPoles{}
				}
				level[next].grow(shorter, rung)
			}
		}
		for key := range level {
			old[key] = true
		}
		levels = append(levels, level)
	}
	return levels
}

func (k turnedKey) over(n, rung int) turnedKey {
	low, high := slices.Index(k.ends[:n], rung), slices.Index(k.ends[:n], (rung+1)%n)
	k.ends[low], k.ends[high] = k.ends[high], k.ends[low]
	if rung == n-1 {
		k.winds[low]++
		k.winds[high]--
	}
	return k
}

func (l *leastPoles) grow(shorter *leastPoles, rung int) {
	longer := append(slices.Clone(shorter.first), rung)
	if l.first == nil || slices.Compare(longer, l.first) < 0 {
		l.first = longer
	}
	if len(longer) == 1 {
		l.begins[rung] = true
	}
	for first, is := range shorter.begins {
		l.begins[first] = l.begins[first] || is
	}
}

func TestLeastPolesAreGrown(t *testing.T) {
	for n, most := range map[int]int{3: 66, 4: 16, 5: 9, 6: 7, 7: 6, 8: 5} {
		for depth, level := range grownPoles(n, most) {
			for key, want := range level {
				turned := impl.Turned{Ends: key.ends[:n], Winds: key.winds[:n]}
				if !impl.IsTurned(turned) {
					continue
				}
				checkLeastPole(t, turned, depth, want)
			}
		}
	}
}

func checkLeastPole(t *testing.T, turned impl.Turned, depth int, want *leastPoles) {
	t.Helper()
	if count, ok := impl.PoleInversions(turned); !ok || count != depth {
		t.Fatal("inversions", turned, count, ok)
	}
	var begins []int
	for rung, is := range want.begins {
		if is {
			begins = append(begins, rung)
		}
	}
	if descents, ok := impl.PoleDescents(turned); !ok || !sameInts(descents, begins) {
		t.Fatal("descents", turned, descents, ok)
	}
	least, ok := impl.LeastPole(turned)
	if depth > impl.MaxRungs {
		if ok || !samePole(least, impl.Pole{}) {
			t.Fatal("too long", turned, least, ok)
		}
		return
	}
	if !ok || !samePole(least, impl.Pole{Wires: len(turned.Ends), Rungs: want.first}) {
		t.Fatal("least", turned, least, ok)
	}
	if is, ok := impl.IsLeastPole(least); !is || !ok {
		t.Fatal("not least", turned, least)
	}
}

// TestLongLeastPoles takes results of long poles, which are not grown, and
// checks that least ones have them and begin with the least rungs.
func TestLongLeastPoles(t *testing.T) {
	somePoles(func(l impl.Pole) {
		result := aroundOf(l).result
		least, ok := impl.LeastPole(result)
		if !ok || !impl.IsPole(least) || len(least.Rungs) != poleInversions(result) {
			t.Fatal("least", l, least, ok)
		}
		if !sameTurned(aroundOf(least).result, result) {
			t.Fatal("another result", l, least)
		}
		for i, rung := range least.Rungs {
			rest := aroundOf(impl.Pole{Wires: l.Wires, Rungs: least.Rungs[i:]}).result
			for before := range rung {
				if placeIn(rest, before) > placeIn(rest, before+1) {
					t.Fatal("a lesser rung", l, least, i)
				}
			}
		}
	})
}

// TestLongestLeastPoles meets MaxRungs exactly and exceeds it by one.
func TestLongestLeastPoles(t *testing.T) {
	for n := 3; n <= impl.MaxWires; n++ {
		l := impl.Pole{Wires: n}
		for i := range impl.MaxRungs {
			l.Rungs = append(l.Rungs, i%n)
		}
		result := must[impl.Turned](t)(impl.PoleResult(l))
		if is := must[bool](t)(impl.IsLeastPole(l)); !is {
			t.Error("60 rungs that wind are not least", n)
		}
		if least := must[impl.Pole](t)(impl.LeastPole(result)); len(least.Rungs) != impl.MaxRungs {
			t.Error("60 rungs", n, least)
		}
		longer, tooLong := 0, 0
		for rung := range n {
			top := must[impl.Turned](t)(impl.PoleResult(impl.Pole{Wires: n, Rungs: []int{rung}}))
			both, ok := impl.ThenTurned(top, result)
			if !ok || must[int](t)(impl.PoleInversions(both)) < impl.MaxRungs {
				continue
			}
			longer++
			if least, ok := impl.LeastPole(both); !ok && samePole(least, impl.Pole{}) {
				tooLong++
			}
		}
		if longer == 0 || longer != tooLong {
			t.Error("61 rungs", n, longer, tooLong)
		}
	}
}

func TestPolesBelowEachOther(t *testing.T) {
	mixed := mixer(7)
	pole := func(n, k int) impl.Pole {
		l := impl.Pole{Wires: n, Rungs: make([]int, k)}
		for i := range l.Rungs {
			l.Rungs[i] = mixed.below(n)
		}
		return l
	}
	for n := 3; n <= impl.MaxWires; n++ {
		for k := 0; k <= impl.MaxRungs; k++ {
			a, b := pole(n, k), pole(n, impl.MaxRungs-k)
			both, ok := impl.BelowPole(a, b)
			if !ok || !samePole(both, impl.Pole{Wires: n, Rungs: slices.Concat(a.Rungs, b.Rungs)}) {
				t.Fatal("below", a, b, both, ok)
			}
			then, ok := impl.ThenTurned(aroundOf(a).result, aroundOf(b).result)
			if !ok || !sameTurned(then, aroundOf(both).result) {
				t.Fatal("then", a, b, then, ok)
			}
			if _, ok := impl.BelowPole(a, pole(n, impl.MaxRungs-k+1)); ok {
				t.Fatal("61 rungs", n, k)
			}
		}
	}
}

func TestTurnedOrdersOneAfterTheOther(t *testing.T) {
	all := map[int][]impl.Turned{}
	someTurned(func(turned impl.Turned) { all[len(turned.Ends)] = append(all[len(turned.Ends)], turned) })
	met, exceeded := 0, 0
	for n, list := range all {
		for _, a := range list {
			for _, b := range list {
				want, greatest := unturned(n), 0
				for i, middle := range a.Ends {
					want.Ends[i] = b.Ends[middle]
					want.Winds[i] = a.Winds[i] + b.Winds[middle]
					greatest = max(greatest, want.Winds[i], -want.Winds[i])
				}
				if greatest > 20 {
					exceeded++
					want = impl.Turned{}
				}
				if greatest == 20 {
					met++
				}
				if got, ok := impl.ThenTurned(a, b); ok != (greatest <= 20) || !sameTurned(got, want) {
					t.Fatal("then", a, b, got, ok)
				}
			}
		}
	}
	if met == 0 || exceeded == 0 {
		t.Error("the limit of winds is not tried", met, exceeded)
	}
}

func TestTurnedBack(t *testing.T) {
	someTurned(func(turned impl.Turned) {
		n := len(turned.Ends)
		back, ok := impl.BackTurned(turned)
		if !ok || !impl.IsTurned(back) {
			t.Fatal("back", turned, back, ok)
		}
		for i, end := range turned.Ends {
			if back.Ends[end] != i || back.Winds[end] != -turned.Winds[i] {
				t.Fatal("back", turned, back)
			}
		}
		if both := must[impl.Turned](t)(impl.ThenTurned(turned, back)); !sameTurned(both, unturned(n)) {
			t.Fatal("there and back", turned, both)
		}
	})
	somePoles(func(l impl.Pole) {
		turned, ok := impl.TurnPole(l)
		want := slices.Clone(l.Rungs)
		slices.Reverse(want)
		if !ok || !samePole(turned, impl.Pole{Wires: l.Wires, Rungs: want}) {
			t.Fatal("upside down", l, turned, ok)
		}
		back := must[impl.Turned](t)(impl.BackTurned(aroundOf(l).result))
		if !sameTurned(aroundOf(turned).result, back) {
			t.Fatal("result upside down", l, back)
		}
	})
}

func TestSpunPoles(t *testing.T) {
	somePoles(func(l impl.Pole) {
		was := aroundOf(l)
		for k := range l.Wires {
			spun, ok := impl.SpinPole(l, k)
			if !ok || spun.Wires != l.Wires || len(spun.Rungs) != len(l.Rungs) || !impl.IsPole(spun) {
				t.Fatal("spun", l, k, spun, ok)
			}
			is := aroundOf(spun)
			for start, way := range was.ways {
				moved := make([]int, len(way))
				for i, wire := range way {
					moved[i] = (wire + k) % l.Wires
				}
				if !sameInts(is.ways[(start+k)%l.Wires], moved) {
					t.Fatal("way around", l, k, start, moved)
				}
				if placeIn(is.result, start+k) != placeIn(was.result, start)+k {
					t.Fatal("place", l, k, start)
				}
			}
			for i, rung := range l.Rungs {
				if spun.Rungs[i] != (rung+k)%l.Wires {
					t.Fatal("rung", l, k, spun)
				}
			}
		}
	})
}

func TestOpenedAndClosedPoles(t *testing.T) {
	somePoles(func(l impl.Pole) {
		opened, ok := impl.OpenPole(l)
		if slices.Contains(l.Rungs, l.Wires-1) {
			if ok || !sameLadder(opened, impl.Ladder{}) {
				t.Fatal("opened", l, opened, ok)
			}
			return
		}
		if !ok || !sameLadder(opened, impl.Ladder{Wires: l.Wires, Rungs: l.Rungs}) {
			t.Fatal("opened", l, opened, ok)
		}
	})
	someLadders(func(l impl.Ladder) {
		closed, ok := impl.ClosePole(l)
		if l.Wires < 3 {
			if ok || !samePole(closed, impl.Pole{}) {
				t.Fatal("closed", l, closed, ok)
			}
			return
		}
		if !ok || !samePole(closed, impl.Pole{Wires: l.Wires, Rungs: l.Rungs}) {
			t.Fatal("closed", l, closed, ok)
		}
		result := must[impl.Turned](t)(impl.PoleResult(closed))
		if !sameTurned(result, impl.Turned{Ends: resultOf(l), Winds: make([]int, l.Wires)}) {
			t.Fatal("result", l, result)
		}
	})
}

// powerOf returns how often turned has to be done until all is as it was, or 0
// if that takes more than 100 times. Winds have no limit.
func powerOf(turned impl.Turned) int {
	n := len(turned.Ends)
	now := unturned(n)
	for times := 1; times <= 100; times++ {
		for i, end := range now.Ends {
			now.Ends[i] = turned.Ends[end]
			now.Winds[i] += turned.Winds[end]
		}
		if sameTurned(now, unturned(n)) {
			return times
		}
	}
	return 0
}

func checkPower(t *testing.T, turned impl.Turned) int {
	t.Helper()
	want := powerOf(turned)
	if got, ok := impl.PolePower(turned); got != want || ok != (want > 0) {
		t.Fatal("power", turned, got, ok, want)
	}
	return want
}

func TestPowers(t *testing.T) {
	powers := map[int]int{}
	someTurned(func(turned impl.Turned) { powers[checkPower(t, turned)]++ })
	somePoles(func(l impl.Pole) { powers[checkPower(t, aroundOf(l).result)]++ })
	// With the other way around taken off, nobody winds on and on.
	someTurned(func(turned impl.Turned) {
		moved := impl.Turned{Ends: turned.Ends, Winds: make([]int, len(turned.Ends))}
		for i, end := range turned.Ends {
			moved.Winds[i] = turned.Winds[i]/2 - turned.Winds[end]/2
		}
		powers[checkPower(t, moved)]++
	})
	for _, times := range []int{0, 1, 2, 3, 4, 5, 6, 7, 8, 10, 12, 15} {
		if powers[times] == 0 {
			t.Error("no power", times)
		}
	}
}

// TestPowersWindFar takes turned orders that wind by more than MaxWinding
// before all is as it was.
func TestPowersWindFar(t *testing.T) {
	for _, c := range []struct {
		turned impl.Turned
		times  int
	}{
		{impl.Turned{Ends: []int{1, 2, 3, 0}, Winds: []int{20, 20, -20, -20}}, 4},
		{impl.Turned{Ends: []int{1, 2, 3, 4, 5, 6, 7, 0}, Winds: []int{20, 20, 20, 20, -20, -20, -20, -20}}, 8},
		{impl.Turned{Ends: []int{1, 2, 0, 4, 5, 6, 7, 3}, Winds: []int{20, -10, -10, 20, 20, 0, -20, -20}}, 15},
		{impl.Turned{Ends: []int{1, 2, 0, 4, 5, 6, 7, 3}, Winds: []int{20, -10, -10, 20, 20, 1, -20, -20}}, 0},
		{impl.Turned{Ends: []int{1, 2, 0, 4, 5, 6, 7, 3}, Winds: []int{20, -10, -11, 20, 20, 1, -20, -20}}, 0},
		{impl.Turned{Ends: []int{0, 1, 2}, Winds: []int{20, -20, 0}}, 0},
		{impl.Turned{Ends: []int{0, 2, 1}, Winds: []int{0, 20, -20}}, 2},
		{unturned(3), 1},
		{unturned(8), 1},
	} {
		if times, ok := impl.PolePower(c.turned); times != c.times || ok != (c.times > 0) {
			t.Error("power", c.turned, times, ok)
		}
	}
}

func TestPolesWithoutRungs(t *testing.T) {
	for n := 3; n <= impl.MaxWires; n++ {
		for _, l := range []impl.Pole{{Wires: n}, {Wires: n, Rungs: []int{}}} {
			checkBarePole(t, l)
		}
		home := unturned(n)
		if least, ok := impl.LeastPole(home); !ok || !samePole(least, impl.Pole{Wires: n}) {
			t.Error("least", n, least, ok)
		}
		if descents, ok := impl.PoleDescents(home); !ok || len(descents) != 0 {
			t.Error("descents", n, descents, ok)
		}
		if count, ok := impl.PoleInversions(home); !ok || count != 0 {
			t.Error("inversions", n, count, ok)
		}
	}
}

func checkBarePole(t *testing.T, l impl.Pole) {
	t.Helper()
	n := l.Wires
	if !impl.IsPole(l) {
		t.Error("no pole", n)
	}
	if result, ok := impl.PoleResult(l); !ok || !sameTurned(result, unturned(n)) {
		t.Error("result", n, result, ok)
	}
	if is, ok := impl.IsLeastPole(l); !is || !ok {
		t.Error("not least", n)
	}
	for start := range n {
		if way, ok := impl.PoleWay(l, start); !ok || !sameInts(way, []int{start}) {
			t.Error("way", n, way, ok)
		}
		if wire, winds, ok := impl.PoleEnd(l, start); !ok || wire != start || winds != 0 {
			t.Error("end", n, wire, winds, ok)
		}
		if spun, ok := impl.SpinPole(l, start); !ok || !samePole(spun, l) {
			t.Error("spun", n, spun, ok)
		}
	}
	if turned, ok := impl.TurnPole(l); !ok || !samePole(turned, l) {
		t.Error("turned", n, turned, ok)
	}
	if below, ok := impl.BelowPole(l, l); !ok || !samePole(below, l) {
		t.Error("below", n, below, ok)
	}
	opened, ok := impl.OpenPole(l)
	if !ok || !sameLadder(opened, impl.Ladder{Wires: n}) {
		t.Error("opened", n, opened, ok)
	}
	if closed, ok := impl.ClosePole(opened); !ok || !samePole(closed, l) {
		t.Error("closed", n, closed, ok)
	}
	if s, ok := impl.PoleText(l); !ok || s != string(rune('0'+n))+"*-" {
		t.Error("text", n, s, ok)
	}
}

func TestTextsOfPoles(t *testing.T) {
	somePoles(func(l impl.Pole) {
		want := strings.Replace(textOf(impl.Ladder{Wires: l.Wires, Rungs: l.Rungs}), ":", "*", 1)
		if s, ok := impl.PoleText(l); !ok || s != want {
			t.Fatal("text", l, s, ok)
		}
	})
	if s := must[string](t)(impl.PoleText(impl.Pole{Wires: 8, Rungs: []int{7, 0, 7}})); s != "8*7,0,7" {
		t.Error("text", s)
	}
}
