package tests

import (
	"math"
	"reflect"
	"slices"
	"strconv"
	"strings"
	"testing"

	"loop.example/g01209/impl"
)

// This file tests promise 1.

// eachLadder calls f with all ladders of n wires and at most most rungs.
func eachLadder(n, most int, f func(l impl.Ladder)) {
	var grow func(rungs []int)
	grow = func(rungs []int) {
		f(impl.Ladder{Wires: n, Rungs: slices.Clone(rungs)})
		if len(rungs) == most {
			return
		}
		for rung := range n - 1 {
			grow(append(slices.Clone(rungs), rung))
		}
	}
	grow(nil)
}

// someLadders calls f with all small ladders and with ladders of all numbers
// of wires and of rungs.
func someLadders(f func(l impl.Ladder)) {
	eachLadder(2, 7, f)
	eachLadder(3, 6, f)
	eachLadder(4, 4, f)
	eachLadder(8, 2, f)
	state := uint32(1)
	for n := 2; n <= impl.MaxWires; n++ {
		for k := 0; k <= impl.MaxRungs; k++ {
			rungs := make([]int, k)
			for i := range rungs {
				state = state*1664525 + 1013904223
				rungs[i] = int(state>>16) % (n - 1)
			}
			f(impl.Ladder{Wires: n, Rungs: rungs})
		}
	}
}

// eachOrder calls f with all orders of n numbers.
func eachOrder(n int, f func(p []int)) {
	var grow func(p []int)
	grow = func(p []int) {
		if len(p) == n {
			f(slices.Clone(p))
			return
		}
		for number := range n {
			if !slices.Contains(p, number) {
				grow(append(slices.Clone(p), number))
			}
		}
	}
	grow(nil)
}

// must returns a function's first result and fails the test if the call fails.
func must[T any](t *testing.T) func(v T, ok bool) T {
	return func(v T, ok bool) T {
		t.Helper()
		if !ok {
			t.Fatal("a call fails")
		}
		return v
	}
}

func sameInts(a, b []int) bool { return slices.Equal(a, b) }

func sameLadder(a, b impl.Ladder) bool { return a.Wires == b.Wires && slices.Equal(a.Rungs, b.Rungs) }

// textOf writes a ladder independently of LadderText.
func textOf(l impl.Ladder) string {
	var b strings.Builder
	b.WriteString(strconv.Itoa(l.Wires) + ":")
	for i, rung := range l.Rungs {
		if i > 0 {
			b.WriteByte(',')
		}
		b.WriteString(strconv.Itoa(rung))
	}
	if len(l.Rungs) == 0 {
		b.WriteByte('-')
	}
	return b.String()
}

// descent tells of a ladder what follows when all go down at once: at each
// rung the two on its wires are exchanged.
type descent struct {
	ways     [][]int
	used     [][]int
	meetings [][]int
}

func descentOf(l impl.Ladder) descent {
	d := descent{ways: make([][]int, l.Wires), used: make([][]int, l.Wires), meetings: make([][]int, l.Wires)}
	standing := make([]int, l.Wires)
	for i := range standing {
		standing[i] = i
		d.ways[i] = []int{i}
		d.meetings[i] = make([]int, l.Wires)
	}
	for i, rung := range l.Rungs {
		a, b := standing[rung], standing[rung+1]
		standing[rung], standing[rung+1] = b, a
		d.used[a] = append(d.used[a], i)
		d.used[b] = append(d.used[b], i)
		d.meetings[a][b]++
		d.meetings[b][a]++
		for wire, start := range standing {
			d.ways[start] = append(d.ways[start], wire)
		}
	}
	return d
}

func TestExampleOfChapter1(t *testing.T) {
	l := must[impl.Ladder](t)(impl.ParseLadder("3:0,1"))
	if p := must[[]int](t)(impl.ResultOf(l)); !sameInts(p, []int{2, 0, 1}) || must[int](t)(impl.SignOf(p)) != 1 {
		t.Error("result", p)
	}
	if used := must[[]int](t)(impl.RungsUsed(l, 0)); !sameInts(used, []int{0, 1}) {
		t.Error("rungs used", used)
	}
	for start, end := range []int{2, 0, 1} {
		if e := must[int](t)(impl.EndOf(l, start)); e != end {
			t.Error("end", start, e)
		}
	}
	u := must[impl.Ladder](t)(impl.TurnLadder(l))
	if s := must[string](t)(impl.LadderText(u)); s != "3:1,0" {
		t.Error("upside down", s)
	}
	if p := must[[]int](t)(impl.ResultOf(u)); !sameInts(p, []int{1, 2, 0}) {
		t.Error("result upside down", p)
	}
	if m := must[int](t)(impl.MeetingsOf(l, 0, 1)); m != 1 {
		t.Error("meetings", m)
	}
}

func TestWaysAndResults(t *testing.T) {
	someLadders(func(l impl.Ladder) {
		d := descentOf(l)
		result := must[[]int](t)(impl.ResultOf(l))
		if len(result) != l.Wires {
			t.Fatal("result", l, result)
		}
		for start, way := range d.ways {
			end := way[len(way)-1]
			if got := must[[]int](t)(impl.WayDown(l, start)); !sameInts(got, way) {
				t.Fatal("way", l, start, got)
			}
			if got := must[int](t)(impl.EndOf(l, start)); got != end || result[start] != end {
				t.Fatal("end", l, start, got, result)
			}
			if got := must[[]int](t)(impl.RungsUsed(l, start)); !sameInts(got, d.used[start]) {
				t.Fatal("rungs used", l, start, got)
			}
			for other, meetings := range d.meetings[start] {
				if got, ok := impl.MeetingsOf(l, start, other); got != meetings || ok != (start != other) {
					t.Fatal("meetings", l, start, other, got, ok)
				}
			}
		}
	})
}

func TestResultsAreOrders(t *testing.T) {
	someLadders(func(l impl.Ladder) {
		p := must[[]int](t)(impl.ResultOf(l))
		if !impl.IsOrder(p) {
			t.Fatal("no order", l, p)
		}
		sign := 1
		if len(l.Rungs)%2 == 1 {
			sign = -1
		}
		if got := must[int](t)(impl.SignOf(p)); got != sign {
			t.Fatal("sign", l, p, got)
		}
	})
}

func TestTurnedAndMirrored(t *testing.T) {
	someLadders(func(l impl.Ladder) {
		turned, mirrored := impl.Ladder{Wires: l.Wires}, impl.Ladder{Wires: l.Wires}
		for i, rung := range l.Rungs {
			turned.Rungs = append(turned.Rungs, l.Rungs[len(l.Rungs)-1-i])
			mirrored.Rungs = append(mirrored.Rungs, l.Wires-2-rung)
		}
		if got := must[impl.Ladder](t)(impl.TurnLadder(l)); !sameLadder(got, turned) {
			t.Fatal("turned", l, got)
		}
		if got := must[impl.Ladder](t)(impl.MirrorLadder(l)); !sameLadder(got, mirrored) {
			t.Fatal("mirrored", l, got)
		}
		p := must[[]int](t)(impl.ResultOf(l))
		if got := must[[]int](t)(impl.ResultOf(turned)); !sameInts(got, must[[]int](t)(impl.BackOrder(p))) {
			t.Fatal("result of the turned one", l, got)
		}
		for start, end := range must[[]int](t)(impl.ResultOf(mirrored)) {
			if end != l.Wires-1-p[l.Wires-1-start] {
				t.Fatal("result of the mirrored one", l, start, end)
			}
		}
	})
}

func TestLaddersBelowEachOther(t *testing.T) {
	eachLadder(3, 3, func(a impl.Ladder) {
		eachLadder(3, 3, func(b impl.Ladder) {
			got := must[impl.Ladder](t)(impl.BelowLadder(a, b))
			if !sameLadder(got, impl.Ladder{Wires: 3, Rungs: append(slices.Clone(a.Rungs), b.Rungs...)}) {
				t.Fatal("below", a, b, got)
			}
			p, q := must[[]int](t)(impl.ResultOf(a)), must[[]int](t)(impl.ResultOf(b))
			if both := must[[]int](t)(impl.ThenOrder(p, q)); !sameInts(both, must[[]int](t)(impl.ResultOf(got))) {
				t.Fatal("result", a, b, both)
			}
		})
	})
	for k := range impl.MaxRungs + 2 {
		a, b := impl.Ladder{Wires: 3, Rungs: manyRungs(k)}, impl.Ladder{Wires: 3, Rungs: []int{1, 1}}
		got, ok := impl.BelowLadder(a, b)
		if ok != (k+2 <= impl.MaxRungs) || ok && len(got.Rungs) != k+2 {
			t.Error("room", k, got, ok)
		}
	}
}

func TestRungsAddedAndTaken(t *testing.T) {
	someLadders(func(l impl.Ladder) {
		for at := range len(l.Rungs) + 1 {
			rung := at % (l.Wires - 1)
			want := impl.Ladder{Wires: l.Wires, Rungs: slices.Insert(slices.Clone(l.Rungs), at, rung)}
			got, ok := impl.AddRung(l, at, rung)
			if ok != (len(l.Rungs) < impl.MaxRungs) || ok && !sameLadder(got, want) {
				t.Fatal("added", l, at, got, ok)
			}
			if !ok {
				continue
			}
			if back := must[impl.Ladder](t)(impl.TakeRung(got, at)); !sameLadder(back, l) {
				t.Fatal("taken", got, at, back)
			}
		}
	})
	full := impl.Ladder{Wires: 3, Rungs: manyRungs(impl.MaxRungs)}
	if got := must[impl.Ladder](t)(impl.TakeRung(full, impl.MaxRungs-1)); len(got.Rungs) != impl.MaxRungs-1 {
		t.Error("taken", got)
	}
}

func TestRepeatedLadders(t *testing.T) {
	for rungs := range impl.MaxRungs + 1 {
		l := impl.Ladder{Wires: 3, Rungs: manyRungs(rungs)}
		want := impl.Ladder{Wires: 3}
		for k := range impl.MaxRungs + 2 {
			got, ok := impl.RepeatLadder(l, k)
			if ok != (rungs*k <= impl.MaxRungs) || ok && !sameLadder(got, want) {
				t.Fatal("repeated", l, k, got, ok)
			}
			want.Rungs = append(want.Rungs, l.Rungs...)
		}
	}
	for _, k := range []int{0, 1, 1000, math.MaxInt} {
		if got, ok := impl.RepeatLadder(impl.Ladder{Wires: 8}, k); !ok || !sameLadder(got, impl.Ladder{Wires: 8}) {
			t.Error("without rungs", k, got, ok)
		}
	}
}

// TestRepeatedUntilHome checks that OrderTimes is the least number of ladders
// below each other that bring everybody home.
func TestRepeatedUntilHome(t *testing.T) {
	eachLadder(4, 4, func(l impl.Ladder) {
		times := must[int](t)(impl.OrderTimes(must[[]int](t)(impl.ResultOf(l))))
		for k := 1; k <= times; k++ {
			p := must[[]int](t)(impl.ResultOf(must[impl.Ladder](t)(impl.RepeatLadder(l, k))))
			if slices.IsSorted(p) != (k == times) {
				t.Fatal("times", l, k, times)
			}
		}
	})
}

func TestIsOrderOfAllSmallLists(t *testing.T) {
	var list []int
	var grow func()
	grow = func() {
		sorted := slices.Clone(list)
		slices.Sort(sorted)
		want := len(list) > 0
		for i, number := range sorted {
			want = want && number == i
		}
		if impl.IsOrder(list) != want {
			t.Fatal("order", list)
		}
		if len(list) == 5 {
			return
		}
		for number := -1; number <= 5; number++ {
			list = append(list, number)
			grow()
			list = list[:len(list)-1]
		}
	}
	grow()
}

// inversionSign tells the sign of an order by its inversions.
func inversionSign(p []int) int {
	sign := 1
	for j := range p {
		for i := range j {
			if p[i] > p[j] {
				sign = -sign
			}
		}
	}
	return sign
}

func TestOrdersAndTheirCycles(t *testing.T) {
	for n := 1; n <= 6; n++ {
		eachOrder(n, func(p []int) { checkOrder(t, p) })
	}
	checkOrder(t, []int{1, 2, 0, 4, 5, 6, 7, 3})
	checkOrder(t, []int{7, 0, 1, 2, 3, 4, 5, 6})
	if times := must[int](t)(impl.OrderTimes([]int{1, 2, 0, 4, 5, 6, 7, 3})); times != 15 {
		t.Error("times", times)
	}
}

func checkOrder(t *testing.T, p []int) {
	t.Helper()
	if !impl.IsOrder(p) || must[int](t)(impl.SignOf(p)) != inversionSign(p) {
		t.Fatal("sign", p)
	}
	back := must[[]int](t)(impl.BackOrder(p))
	for i, place := range p {
		if back[place] != i {
			t.Fatal("back", p, back)
		}
	}
	times := 1
	for now := slices.Clone(p); !slices.IsSorted(now); times++ {
		now = must[[]int](t)(impl.ThenOrder(now, p))
	}
	if got := must[int](t)(impl.OrderTimes(p)); got != times {
		t.Fatal("times", p, got)
	}
	if got := must[[][]int](t)(impl.CyclesOf(p)); !reflect.DeepEqual(got, cyclesOf(p)) {
		t.Fatal("cycles", p, got)
	}
}

// cyclesOf finds the cycle of each number and leaves out all but those that
// begin with their least one.
func cyclesOf(p []int) [][]int {
	var cycles [][]int
	for first := range p {
		cycle := []int{first}
		for at := p[first]; at != first; at = p[at] {
			cycle = append(cycle, at)
		}
		if slices.Min(cycle) == first {
			cycles = append(cycles, cycle)
		}
	}
	return cycles
}

func TestOrdersOneAfterTheOther(t *testing.T) {
	for n := 1; n <= 4; n++ {
		eachOrder(n, func(p []int) {
			eachOrder(n, func(q []int) {
				both := must[[]int](t)(impl.ThenOrder(p, q))
				for i := range p {
					if both[i] != q[p[i]] || len(both) != n {
						t.Fatal("then", p, q, both)
					}
				}
			})
		})
	}
	long := must[[]int](t)(impl.ThenOrder([]int{7, 0, 1, 2, 3, 4, 5, 6}, []int{1, 0, 3, 2, 5, 4, 7, 6}))
	if !sameInts(long, []int{6, 1, 0, 3, 2, 5, 4, 7}) {
		t.Error("then", long)
	}
}

func TestOrderOfOneNumber(t *testing.T) {
	p := []int{0}
	if back := must[[]int](t)(impl.BackOrder(p)); !sameInts(back, p) {
		t.Error("back", back)
	}
	if both := must[[]int](t)(impl.ThenOrder(p, p)); !sameInts(both, p) {
		t.Error("then", both)
	}
	if must[int](t)(impl.OrderTimes(p)) != 1 || must[int](t)(impl.SignOf(p)) != 1 {
		t.Error("times or sign")
	}
	if cycles := must[[][]int](t)(impl.CyclesOf(p)); !reflect.DeepEqual(cycles, [][]int{{0}}) {
		t.Error("cycles", cycles)
	}
}

func TestLadderWithoutRungs(t *testing.T) {
	for n := 2; n <= impl.MaxWires; n++ {
		l := impl.Ladder{Wires: n}
		p := must[[]int](t)(impl.ResultOf(l))
		if len(p) != n || !slices.IsSorted(p) || !impl.IsLadder(l) {
			t.Error("result", n, p)
		}
		if way := must[[]int](t)(impl.WayDown(l, n-1)); !sameInts(way, []int{n - 1}) {
			t.Error("way", n, way)
		}
		if used := must[[]int](t)(impl.RungsUsed(l, 0)); len(used) != 0 {
			t.Error("rungs used", n, used)
		}
		for _, got := range []impl.Ladder{
			must[impl.Ladder](t)(impl.TurnLadder(l)), must[impl.Ladder](t)(impl.MirrorLadder(l)),
			must[impl.Ladder](t)(impl.BelowLadder(l, l)), must[impl.Ladder](t)(impl.ParseLadder(strconv.Itoa(n) + ":-")),
		} {
			if !sameLadder(got, l) {
				t.Error("no rungs", n, got)
			}
		}
	}
}

func TestTextsAreReadBack(t *testing.T) {
	someLadders(func(l impl.Ladder) {
		text := must[string](t)(impl.LadderText(l))
		if text != textOf(l) {
			t.Fatal("text", l, text)
		}
		if back, ok := impl.ParseLadder(text); !ok || !sameLadder(back, l) {
			t.Fatal("read back", text, back, ok)
		}
	})
}

// TestAllShortTexts tries every text of at most 5 bytes of those that a
// LadderText has and of some others.
func TestAllShortTexts(t *testing.T) {
	texts := map[string]impl.Ladder{}
	for n := 2; n <= impl.MaxWires; n++ {
		eachLadder(n, 2, func(l impl.Ladder) { texts[textOf(l)] = l })
	}
	read := 0
	var grow func(s string)
	grow = func(s string) {
		got, ok := impl.ParseLadder(s)
		if want, known := texts[s]; ok != known || !sameLadder(got, want) {
			t.Fatalf("ParseLadder(%q): %v %v", s, got, ok)
		}
		if ok {
			read++
		}
		if len(s) == 5 {
			return
		}
		for _, next := range []byte("012389:,-+ ") {
			grow(s + string(next))
		}
	}
	grow("")
	if read == 0 {
		t.Error("no text is read")
	}
}

func TestTextsOfNoLadder(t *testing.T) {
	full := textOf(impl.Ladder{Wires: 3, Rungs: manyRungs(impl.MaxRungs)})
	if got, ok := impl.ParseLadder(full); !ok || len(got.Rungs) != impl.MaxRungs {
		t.Error("as many rungs as there may be", got, ok)
	}
	for _, s := range []string{
		"", ":", "-", "3", "3:", ":0,1", ":-", "3-", "3:0:1", "3::0", "3:0,", "3:,0", "3:0,,1", "3:-,0", "3:0,-", "3:--",
		"03:0,1", "3:00", "3:01", "3:0,01", "3:-0", "3:-1", "3:+1", "+3:0", "-3:0", "3:1e0", "3:0x1", "3:1_0", "3:0.0",
		" 3:0", "3 :0", "3: 0", "3:0 ", "3:0, 1", "3:0 ,1", "3:0,1\n", "\t3:-", "3:- ", "3;0,1", "3:0;1", "3:0.1", "３:0", "3:٠", "3:0\x00",
		"0:-", "1:-", "1:0", "9:-", "9:0", "10:0", "80:-", "2:1", "3:2", "8:7", "3:0,2", "3:0,1,99999999999999999999", "99999999999999999999:0",
		full + ",0", "3:" + strings.Repeat("0,", 100) + "0",
	} {
		fails(t, "ParseLadder", impl.ParseLadder, s)
	}
}
