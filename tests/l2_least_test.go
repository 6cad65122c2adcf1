package tests

import (
	"maps"
	"reflect"
	"slices"
	"strconv"
	"testing"

	"loop.example/g01209/impl"
)

// This file tests promise 2.

// orderKey is an order as a key of a map.
type orderKey [impl.MaxWires]int

func keyOf(p []int) orderKey {
	var k orderKey
	copy(k[:], p)
	return k
}

// shortest returns, for each result of ladders of n wires, the rungs of the
// first one of those with the fewest rungs. It grows all of them from the top
// down, a rung a round: a rung at the bottom exchanges where two come out.
func shortest(n int) map[orderKey][]int {
	home := make([]int, n)
	for i := range home {
		home[i] = i
	}
	all := map[orderKey][]int{keyOf(home): nil}
	for last := all; len(last) > 0; {
		round := map[orderKey][]int{}
		for result, rungs := range last {
			for rung := range n - 1 {
				next := result
				for i := range n {
					if result[i] == rung {
						next[i] = rung + 1
					} else if result[i] == rung+1 {
						next[i] = rung
					}
				}
				grown := append(slices.Clone(rungs), rung)
				if _, old := all[next]; old {
					continue
				}
				if best, known := round[next]; !known || slices.Compare(grown, best) < 0 {
					round[next] = grown
				}
			}
		}
		maps.Copy(all, round)
		last = round
	}
	return all
}

func allShortest() map[int]map[orderKey][]int {
	all := map[int]map[orderKey][]int{}
	for n := 2; n <= impl.MaxWires; n++ {
		all[n] = shortest(n)
	}
	return all
}

func resultOf(l impl.Ladder) []int {
	result := make([]int, l.Wires)
	for start, way := range descentOf(l).ways {
		result[start] = way[len(way)-1]
	}
	return result
}

func TestExampleOfChapter2(t *testing.T) {
	pairs := must[[][]int](t)(impl.InvertedPairs([]int{2, 0, 1}))
	if !reflect.DeepEqual(pairs, [][]int{{0, 1}, {0, 2}}) {
		t.Error("pairs", pairs)
	}
	read := func(s string) impl.Ladder { return must[impl.Ladder](t)(impl.ParseLadder(s)) }
	text := func(l impl.Ladder, ok bool) string {
		if !ok {
			t.Error("a call fails")
		}
		return textOf(l)
	}
	if s := text(impl.LeastLadder([]int{2, 0, 1})); s != "3:0,1" {
		t.Error("least", s)
	}
	if s := text(impl.FlipRungs(read("3:0,1,0"), 0)); s != "3:1,0,1" {
		t.Error("flipped", s)
	}
	if p := must[[]int](t)(impl.ResultOf(read("3:1,0,1"))); !sameInts(p, []int{2, 1, 0}) {
		t.Error("result", p)
	}
	if moves := must[[]string](t)(impl.MovesOn(read("4:0,2,0"))); !slices.Equal(moves, []string{"s0", "s1"}) {
		t.Error("moves", moves)
	}
	slid := must[impl.Ladder](t)(impl.MakeMove(read("4:0,2,0"), "s0"))
	if s := text(slid, true); s != "4:2,0,0" {
		t.Error("slid", s)
	}
	if s := text(impl.MakeMove(slid, "d1")); s != "4:2" {
		t.Error("dropped", s)
	}
}

func TestLeastLaddersOfAllOrders(t *testing.T) {
	for n, all := range allShortest() {
		for key, rungs := range all {
			p := key[:n]
			if l, ok := impl.LeastLadder(p); !ok || !sameLadder(l, impl.Ladder{Wires: n, Rungs: rungs}) {
				t.Fatal("least", p, l, ok)
			}
			if count, ok := impl.InversionsOf(p); !ok || count != len(rungs) {
				t.Fatal("inversions", p, count, ok)
			}
			checkDescents(t, p, all)
		}
	}
}

// checkDescents compares the descents of p with the rungs behind which a
// shorter ladder is enough.
func checkDescents(t *testing.T, p []int, all map[orderKey][]int) {
	t.Helper()
	var want []int
	for rung := range len(p) - 1 {
		rest := slices.Clone(p)
		rest[rung], rest[rung+1] = rest[rung+1], rest[rung]
		if len(all[keyOf(rest)]) < len(all[keyOf(p)]) {
			want = append(want, rung)
		}
	}
	if got, ok := impl.DescentsOf(p); !ok || !sameInts(got, want) {
		t.Fatal("descents", p, got, ok)
	}
}

func TestInvertedPairs(t *testing.T) {
	for n := 1; n <= 6; n++ {
		eachOrder(n, func(p []int) {
			got := must[[][]int](t)(impl.InvertedPairs(p))
			if len(got) != must[int](t)(impl.InversionsOf(p)) {
				t.Fatal("inversions", p, got)
			}
			if !slices.IsSortedFunc(got, slices.Compare[[]int]) {
				t.Fatal("not in order", p, got)
			}
			sums := 0
			for i := range n {
				for j := range n {
					want := i < j && p[i] > p[j]
					if slices.ContainsFunc(got, func(pair []int) bool { return sameInts(pair, []int{i, j}) }) != want {
						t.Fatal("pairs", p, got)
					}
					if want {
						sums++
					}
				}
			}
			if sums != len(got) {
				t.Fatal("pairs twice", p, got)
			}
		})
	}
}

func TestNeedlessRungs(t *testing.T) {
	all := allShortest()
	least := 0
	someLadders(func(l impl.Ladder) {
		d := descentOf(l)
		result := resultOf(l)
		rungs := all[l.Wires][keyOf(result)]
		if got, ok := impl.ReduceLadder(l); !ok || !sameLadder(got, impl.Ladder{Wires: l.Wires, Rungs: rungs}) {
			t.Fatal("reduced", l, got, ok)
		}
		if got, ok := impl.NeedlessRungs(l); !ok || got != len(l.Rungs)-len(rungs) || got%2 != 0 {
			t.Fatal("needless", l, got, ok)
		}
		got, ok := impl.IsLeast(l)
		if !ok || got != (len(l.Rungs) == len(rungs)) {
			t.Fatal("least", l, got, ok)
		}
		if got {
			least++
		}
		checkMeetTwice(t, l, d.meetings)
	})
	if least == 0 {
		t.Error("no ladder is least")
	}
}

// checkMeetTwice checks as well that nobody meets twice in a least ladder.
func checkMeetTwice(t *testing.T, l impl.Ladder, meetings [][]int) {
	t.Helper()
	var want []int
	for a, row := range meetings {
		for b := a + 1; b < len(row) && want == nil; b++ {
			if row[b] > 1 {
				want = []int{a, b}
			}
		}
	}
	if got, ok := impl.MeetTwice(l); ok != (want != nil) || !sameInts(got, want) {
		t.Fatal("meet twice", l, got, ok)
	}
	if least, ok := impl.IsLeast(l); !ok || least != (want == nil) {
		t.Fatal("least", l, least, ok)
	}
}

// movesOf returns the texts of all moves on a ladder and what they make.
func movesOf(l impl.Ladder) ([]string, map[string]impl.Ladder) {
	var texts []string
	made := map[string]impl.Ladder{}
	add := func(letter string, at int, old int, rungs ...int) {
		text := letter + strconv.Itoa(at)
		texts = append(texts, text)
		next := append(append(slices.Clone(l.Rungs[:at]), rungs...), l.Rungs[at+old:]...)
		made[text] = impl.Ladder{Wires: l.Wires, Rungs: next}
	}
	r := l.Rungs
	for i := 0; i+1 < len(r); i++ {
		if r[i] != r[i+1] && r[i] != r[i+1]-1 && r[i] != r[i+1]+1 {
			add("s", i, 2, r[i+1], r[i])
		}
	}
	for i := 0; i+2 < len(r); i++ {
		if r[i] == r[i+2] && (r[i+1] == r[i]+1 || r[i+1] == r[i]-1) {
			add("f", i, 3, r[i+1], r[i], r[i+1])
		}
	}
	for i := 0; i+1 < len(r); i++ {
		if r[i] == r[i+1] {
			add("d", i, 2)
		}
	}
	return texts, made
}

func TestMovesKeepResults(t *testing.T) {
	kinds := map[string]func(impl.Ladder, int) (impl.Ladder, bool){"s": impl.SlideRung, "f": impl.FlipRungs, "d": impl.DropPair}
	someLadders(func(l impl.Ladder) {
		texts, made := movesOf(l)
		if got := must[[]string](t)(impl.MovesOn(l)); !slices.Equal(got, texts) {
			t.Fatal("moves", l, got)
		}
		result := resultOf(l)
		for letter, kind := range kinds {
			for at := -1; at <= len(l.Rungs)+1; at++ {
				text := letter + strconv.Itoa(at)
				want, can := made[text]
				byIndex, ok := kind(l, at)
				byText, fine := impl.MakeMove(l, text)
				if ok != can || fine != can || !sameLadder(byIndex, want) || !sameLadder(byText, want) {
					t.Fatal("move", l, text, byIndex, ok, byText, fine)
				}
				if can && !sameInts(must[[]int](t)(impl.ResultOf(byIndex)), result) {
					t.Fatal("result", l, text, byIndex)
				}
			}
		}
	})
}

// TestMovesReduce checks that moves lead from each small ladder to the least
// one with its result.
func TestMovesReduce(t *testing.T) {
	eachLadder(4, 5, func(l impl.Ladder) {
		goal := textOf(must[impl.Ladder](t)(impl.ReduceLadder(l)))
		seen := map[string]bool{textOf(l): true}
		for todo := []impl.Ladder{l}; len(todo) > 0; todo = todo[1:] {
			for _, move := range must[[]string](t)(impl.MovesOn(todo[0])) {
				next := must[impl.Ladder](t)(impl.MakeMove(todo[0], move))
				if !seen[textOf(next)] {
					seen[textOf(next)] = true
					todo = append(todo, next)
				}
			}
		}
		if !seen[goal] {
			t.Fatal("not reached", l, goal)
		}
	})
}

// TestAllShortMoves tries every text of at most 3 bytes of those that a move
// has and of some others.
func TestAllShortMoves(t *testing.T) {
	// 60 rungs, so that there are moves of each kind with one and two digits.
	l := impl.Ladder{Wires: 4, Rungs: slices.Repeat([]int{0, 2, 2, 1, 2, 0}, 10)}
	_, made := movesOf(l)
	tried := 0
	var grow func(s string)
	grow = func(s string) {
		want, can := made[s]
		if got, ok := impl.MakeMove(l, s); ok != can || !sameLadder(got, want) {
			t.Fatalf("MakeMove(%q): %v %v", s, got, ok)
		}
		if can {
			tried++
		}
		if len(s) == 3 {
			return
		}
		for _, next := range []byte("sfdSx0123456789+- ") {
			grow(s + string(next))
		}
	}
	grow("")
	if tried != len(made) || len(made) < 40 {
		t.Error("moves", tried, len(made))
	}
}

func TestTextsOfNoMove(t *testing.T) {
	l := must[impl.Ladder](t)(impl.ParseLadder("4:0,2,0,1,0,0,2"))
	moves := []string{"s0", "s1", "s5", "f2", "d4"}
	if got := must[[]string](t)(impl.MovesOn(l)); !slices.Equal(got, moves) {
		t.Fatal("moves", got)
	}
	for _, move := range moves {
		succeeds(t, "MakeMove", impl.MakeMove, l, move)
		letter, at := move[:1], move[1:]
		for _, s := range []string{
			letter, at, letter + "0" + at, letter + "+" + at, letter + "-" + at, letter + " " + at, " " + move, move + " ", move + "\n", "\t" + move,
			move + "\x00", letter + letter + at, at + letter, move + "0", move + "x", move + move, move + "," + move, letter + "_" + at, letter + at + ".0",
			letter + "0x" + at, letter + "9999999999999999999" + at, "S" + at, "F" + at, "D" + at, "m" + at, letter + "٠", letter + ":" + at,
		} {
			fails(t, "MakeMove", impl.MakeMove, l, s)
		}
	}
	for _, s := range []string{"", "-", "s2", "s6", "s7", "f0", "f4", "f5", "f6", "d0", "d6", "d60", "s-1", "f-1", "d-1", "s18446744073709551616"} {
		fails(t, "MakeMove", impl.MakeMove, l, s)
	}
}

// slidesOf returns all rungs that slides make, in order.
func slidesOf(rungs []int) [][]int {
	seen := map[string]bool{}
	var class [][]int
	todo := [][]int{rungs}
	for len(todo) > 0 {
		now := todo[0]
		todo = todo[1:]
		if text := textOf(impl.Ladder{Rungs: now}); seen[text] {
			continue
		} else {
			seen[text] = true
		}
		class = append(class, now)
		_, made := movesOf(impl.Ladder{Rungs: now})
		for move, next := range made {
			if move[0] == 's' {
				todo = append(todo, next.Rungs)
			}
		}
	}
	slices.SortFunc(class, slices.Compare[[]int])
	return class
}

func TestClassesOfSlides(t *testing.T) {
	check := func(l impl.Ladder) {
		want := slidesOf(l.Rungs)
		if first := must[impl.Ladder](t)(impl.FirstSame(l)); !sameLadder(first, impl.Ladder{Wires: l.Wires, Rungs: want[0]}) {
			t.Fatal("first", l, first)
		}
		got := must[[]impl.Ladder](t)(impl.SlideClass(l))
		if len(got) != len(want) {
			t.Fatal("class", l, got)
		}
		for i, same := range got {
			if !sameLadder(same, impl.Ladder{Wires: l.Wires, Rungs: want[i]}) {
				t.Fatal("class", l, got)
			}
			if slides := must[bool](t)(impl.AreSlides(l, same)); !slides {
				t.Fatal("slides", l, same)
			}
		}
	}
	eachLadder(2, 4, check)
	eachLadder(3, 4, check)
	eachLadder(4, 5, check)
	eachLadder(6, 4, check)
	eachLadder(8, 3, check)
	check(impl.Ladder{Wires: 8, Rungs: []int{6, 4, 2, 0, 0, 5}})
	check(impl.Ladder{Wires: 8, Rungs: []int{6, 1, 4, 3, 0, 5, 2}})
}

func TestAreSlidesOfAllPairs(t *testing.T) {
	names := map[string]string{}
	var ladders []impl.Ladder
	for _, n := range []int{4, 5} {
		eachLadder(n, 3, func(l impl.Ladder) {
			names[textOf(l)] = textOf(impl.Ladder{Wires: n, Rungs: slidesOf(l.Rungs)[0]})
			ladders = append(ladders, l)
		})
	}
	for _, a := range ladders {
		for _, b := range ladders {
			got, ok := impl.AreSlides(a, b)
			if ok != (a.Wires == b.Wires) || got != (names[textOf(a)] == names[textOf(b)]) {
				t.Fatal("slides", a, b, got, ok)
			}
		}
	}
}

// sameFromAllSides compares what is seen of two ladders where only rungs a and
// a + 1 are looked at, for all a. Slides keep exactly that.
func sameFromAllSides(a, b impl.Ladder) bool {
	seen := func(l impl.Ladder, rung int) []int {
		return slices.DeleteFunc(slices.Clone(l.Rungs), func(other int) bool { return other != rung && other != rung+1 })
	}
	for rung := range a.Wires - 1 {
		if !slices.Equal(seen(a, rung), seen(b, rung)) {
			return false
		}
	}
	return len(a.Rungs) == len(b.Rungs)
}

func TestAreSlidesOfLongLadders(t *testing.T) {
	different := 0
	someLadders(func(l impl.Ladder) {
		first := must[impl.Ladder](t)(impl.FirstSame(l))
		if !sameFromAllSides(l, first) || slices.Compare(first.Rungs, l.Rungs) > 0 {
			t.Fatal("first", l, first)
		}
		for at := range max(len(l.Rungs)-1, 0) {
			other := impl.Ladder{Wires: l.Wires, Rungs: slices.Clone(l.Rungs)}
			other.Rungs[at], other.Rungs[at+1] = l.Rungs[at+1], l.Rungs[at]
			same := sameFromAllSides(l, other)
			if got := must[bool](t)(impl.AreSlides(l, other)); got != same {
				t.Fatal("slides", l, other, got)
			}
			if !same {
				different++
				continue
			}
			if again := must[impl.Ladder](t)(impl.FirstSame(other)); !sameLadder(again, first) {
				t.Fatal("first", other, again)
			}
		}
	})
	if different == 0 {
		t.Error("all are slides")
	}
}

func TestLargestClasses(t *testing.T) {
	for _, c := range []struct {
		text string
		size int
	}{
		{"5:3,2,2,0,1,0,0,3,2,2,0,3,3", 399}, {"7:4,2,2,5,0,3,0,2,1", 399},
		{"4:0,0,0,2,2,2,1,0,0,0,2,2,2", 400}, {"8:3,6,2,4,2,5,2,0", 400}, {"6:3,1,4,0,4,2,3,0,4,4,4,3", 400},
		{"5:2,2,2,0,0,2,2,3,1,3,1,2,0,1", 401}, {"8:0,2,4,6,0,2,4,6", 2520},
	} {
		l := must[impl.Ladder](t)(impl.ParseLadder(c.text))
		want := slidesOf(l.Rungs)
		if len(want) != c.size {
			t.Fatal("the test is wrong", c, len(want))
		}
		got, ok := impl.SlideClass(l)
		if ok != (c.size <= 400) || ok && len(got) != c.size || !ok && got != nil {
			t.Error("class", c, len(got), ok)
		}
		for i, same := range got {
			if !sameLadder(same, impl.Ladder{Wires: l.Wires, Rungs: want[i]}) {
				t.Fatal("class", c, i, same)
			}
		}
		if first := must[impl.Ladder](t)(impl.FirstSame(l)); !sameInts(first.Rungs, want[0]) {
			t.Error("first", c, first)
		}
		last := impl.Ladder{Wires: l.Wires, Rungs: want[len(want)-1]}
		if !must[bool](t)(impl.AreSlides(l, last)) {
			t.Error("slides", c, last)
		}
	}
}

// TestHugeClass has far more ladders than could ever be listed.
func TestHugeClass(t *testing.T) {
	down := impl.Ladder{Wires: 8, Rungs: slices.Repeat([]int{6, 4, 2, 0}, 15)}
	up := impl.Ladder{Wires: 8, Rungs: slices.Repeat([]int{0, 2, 4, 6}, 15)}
	fails(t, "SlideClass", impl.SlideClass, down)
	if !must[bool](t)(impl.AreSlides(down, up)) {
		t.Error("no slides")
	}
	want := slices.Sorted(slices.Values(up.Rungs))
	if first := must[impl.Ladder](t)(impl.FirstSame(down)); !sameInts(first.Rungs, want) {
		t.Error("first", first)
	}
	// One chain of 59 rungs and a rung that can be at 60 places.
	one := impl.Ladder{Wires: 4, Rungs: append(make([]int, 59), 2)}
	if class := must[[]impl.Ladder](t)(impl.SlideClass(one)); len(class) != 60 {
		t.Error("class", len(class))
	}
}

func TestCodes(t *testing.T) {
	for n := 1; n <= 6; n++ {
		codes := map[orderKey]bool{}
		eachOrder(n, func(p []int) {
			code := must[[]int](t)(impl.CodeOf(p))
			if len(code) != n {
				t.Fatal("code", p, code)
			}
			for i, number := range p {
				less := 0
				for _, behind := range p[i+1:] {
					if behind < number {
						less++
					}
				}
				if code[i] != less || less > n-1-i {
					t.Fatal("code", p, code)
				}
			}
			if back, ok := impl.OrderOfCode(code); !ok || !sameInts(back, p) {
				t.Fatal("order", code, back, ok)
			}
			codes[keyOf(code)] = true
		})
		if n <= 4 {
			checkAllCodes(t, n, codes)
		}
	}
}

// checkAllCodes tries all lists of n small numbers: only codes have orders.
func checkAllCodes(t *testing.T, n int, codes map[orderKey]bool) {
	t.Helper()
	var grow func(list []int)
	grow = func(list []int) {
		if len(list) == n {
			p, ok := impl.OrderOfCode(list)
			if ok != codes[keyOf(list)] || !ok && p != nil {
				t.Fatal("code", list, p, ok)
			}
			return
		}
		for number := -1; number <= n; number++ {
			grow(append(slices.Clone(list), number))
		}
	}
	grow(nil)
}

func TestLongestCodes(t *testing.T) {
	for _, c := range []struct{ code, order []int }{
		{[]int{7, 6, 5, 4, 3, 2, 1, 0}, []int{7, 6, 5, 4, 3, 2, 1, 0}},
		{[]int{0, 0, 0, 0, 0, 0, 0, 0}, []int{0, 1, 2, 3, 4, 5, 6, 7}},
		{[]int{7, 0, 0, 0, 0, 0, 0, 0}, []int{7, 0, 1, 2, 3, 4, 5, 6}},
		{[]int{0, 3, 0, 2, 1, 0, 1, 0}, []int{0, 4, 1, 5, 3, 2, 7, 6}},
		{[]int{0}, []int{0}},
	} {
		if p, ok := impl.OrderOfCode(c.code); !ok || !sameInts(p, c.order) {
			t.Error("order", c.code, p, ok)
		}
		if code, ok := impl.CodeOf(c.order); !ok || !sameInts(code, c.code) {
			t.Error("code", c.order, code, ok)
		}
	}
}

func TestLongestLadders(t *testing.T) {
	all := allShortest()
	for n := -1; n <= impl.MaxWires+1; n++ {
		l, ok := impl.LongestLadder(n)
		if ok != (n >= 2 && n <= impl.MaxWires) || !ok && (l.Wires != 0 || l.Rungs != nil) {
			t.Error("longest", n, l, ok)
		}
		if !ok {
			continue
		}
		var want []int
		for _, rungs := range all[n] {
			if len(rungs) > len(want) {
				want = rungs
			}
		}
		if !sameLadder(l, impl.Ladder{Wires: n, Rungs: want}) || len(want) != n*(n-1)/2 {
			t.Error("longest", n, l, want)
		}
	}
	if l := must[impl.Ladder](t)(impl.LongestLadder(4)); textOf(l) != "4:0,1,0,2,1,0" {
		t.Error("longest", l)
	}
}

func TestNoRungsToMove(t *testing.T) {
	for n := 2; n <= impl.MaxWires; n++ {
		l := impl.Ladder{Wires: n}
		if moves := must[[]string](t)(impl.MovesOn(l)); len(moves) != 0 {
			t.Error("moves", moves)
		}
		if !must[bool](t)(impl.IsLeast(l)) || must[int](t)(impl.NeedlessRungs(l)) != 0 {
			t.Error("least", n)
		}
		if got := must[impl.Ladder](t)(impl.ReduceLadder(l)); !sameLadder(got, l) {
			t.Error("reduced", got)
		}
		if got := must[impl.Ladder](t)(impl.FirstSame(l)); !sameLadder(got, l) {
			t.Error("first", got)
		}
		if got := must[[]impl.Ladder](t)(impl.SlideClass(l)); len(got) != 1 || !sameLadder(got[0], l) {
			t.Error("class", got)
		}
		if !must[bool](t)(impl.AreSlides(l, l)) || must[bool](t)(impl.AreSlides(l, impl.Ladder{Wires: n, Rungs: []int{0}})) {
			t.Error("slides", n)
		}
	}
}

func TestOneNumberIsInOrder(t *testing.T) {
	p := []int{0}
	if must[int](t)(impl.InversionsOf(p)) != 0 || len(must[[][]int](t)(impl.InvertedPairs(p))) != 0 || len(must[[]int](t)(impl.DescentsOf(p))) != 0 {
		t.Error("inversions")
	}
	fails(t, "LeastLadder", impl.LeastLadder, p)
}
