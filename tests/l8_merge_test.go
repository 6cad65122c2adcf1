package tests

import (
	"slices"
	"strings"
	"testing"

	"loop.example/g01209/impl"
)

// This file tests promise 8.

// mergedLadders calls f with ladders of all kinds, among them wider ones that
// have no rung between some neighbours.
func mergedLadders(f func(l impl.Ladder)) {
	someLadders(f)
	mixed := mixer(13)
	for n := 2; n <= impl.MaxWires; n++ {
		for range 40 {
			places := 1 + mixed.below(n-1)
			l := impl.Ladder{Wires: n}
			for range mixed.below(12) {
				l.Rungs = append(l.Rungs, (mixed.below(places)*3+n)%(n-1))
			}
			f(l)
		}
	}
}

// eachSet calls f with all increasing lists of numbers in 0..n-1.
func eachSet(n int, f func(set []int)) {
	eachBits(n, func(bits []int) {
		var set []int
		for i, bit := range bits {
			if bit == 1 {
				set = append(set, i)
			}
		}
		f(set)
	})
}

// othersOf returns all numbers in 0..n-1 but one.
func othersOf(n, one int) []int {
	var others []int
	for i := range n {
		if i != one {
			others = append(others, i)
		}
	}
	return others
}

// keptOf returns the ladder on which only some starts are left: a rung is left
// where two of them meet, with as many wires to its left as others of them
// stand there.
func keptOf(l impl.Ladder, starts []int) impl.Ladder {
	kept := impl.Ladder{Wires: len(starts)}
	standing := othersOf(l.Wires, -1)
	for _, rung := range l.Rungs {
		if slices.Contains(starts, standing[rung]) && slices.Contains(starts, standing[rung+1]) {
			place := 0
			for _, start := range standing[:rung] {
				if slices.Contains(starts, start) {
					place++
				}
			}
			kept.Rungs = append(kept.Rungs, place)
		}
		standing[rung], standing[rung+1] = standing[rung+1], standing[rung]
	}
	return kept
}

// patternOf returns the pattern by sorting the numbers.
func patternOf(p, places []int) []int {
	var numbers []int
	for _, place := range places {
		numbers = append(numbers, p[place])
	}
	sorted := slices.Sorted(slices.Values(numbers))
	pattern := make([]int, len(numbers))
	for i, number := range numbers {
		pattern[i] = slices.Index(sorted, number)
	}
	return pattern
}

func readLadder(t *testing.T, s string) impl.Ladder {
	t.Helper()
	return must[impl.Ladder](t)(impl.ParseLadder(s))
}

func TestExampleOfChapter8(t *testing.T) {
	l := readLadder(t, "3:0,1,0")
	if taken, ok := impl.TakeStart(l, 1); textOf(taken) != "2:0" || !ok {
		t.Error("taken", taken, ok)
	}
	if pattern, ok := impl.PatternOf([]int{3, 1, 4, 0, 2}, []int{0, 2, 4}); !sameInts(pattern, []int{1, 2, 0}) || !ok {
		t.Error("pattern", pattern, ok)
	}
	split := readLadder(t, "4:0,2")
	parts, ok := impl.SplitLadder(split)
	if !ok || len(parts) != 2 || textOf(parts[0]) != "2:0" || textOf(parts[1]) != "2:0" {
		t.Error("parts", parts, ok)
	}
	for at, want := range map[int]bool{1: false, 2: true, 3: false} {
		if is, ok := impl.IsSplit(split, at); is != want || !ok {
			t.Error("split", at, is, ok)
		}
	}
}

func TestStartsAreTakenOut(t *testing.T) {
	mergedLadders(func(l impl.Ladder) {
		for start := range l.Wires {
			others := othersOf(l.Wires, start)
			got, ok := impl.TakeStart(l, start)
			if l.Wires == 2 {
				if ok || !sameLadder(got, impl.Ladder{}) {
					t.Fatal("taken out of two", l, start, got, ok)
				}
				continue
			}
			if want := keptOf(l, others); !ok || !sameLadder(got, want) {
				t.Fatal("taken", l, start, got, ok, want)
			}
			if result := resultOf(got); !sameInts(result, must[[]int](t)(impl.PatternOf(resultOf(l), others))) {
				t.Fatal("not the pattern of the others", l, start, result)
			}
		}
	})
}

// TestOthersGoOnAsBefore checks that the ones left meet as often as before.
func TestOthersGoOnAsBefore(t *testing.T) {
	mergedLadders(func(l impl.Ladder) {
		if l.Wires == 2 {
			return
		}
		before := descentOf(l)
		for start := range l.Wires {
			taken := must[impl.Ladder](t)(impl.TakeStart(l, start))
			if len(taken.Rungs) != len(l.Rungs)-len(before.used[start]) {
				t.Fatal("rungs left", l, start, taken)
			}
			others := othersOf(l.Wires, start)
			for i, row := range descentOf(taken).meetings {
				for j, times := range row {
					if times != before.meetings[others[i]][others[j]] {
						t.Fatal("meetings", l, start, taken, others[i], others[j])
					}
				}
			}
		}
	})
}

func TestStartsAreKept(t *testing.T) {
	keep := func(l impl.Ladder) {
		eachSet(l.Wires, func(starts []int) {
			got, ok := impl.KeepStarts(l, starts)
			if len(starts) < 2 {
				if ok || !sameLadder(got, impl.Ladder{}) {
					t.Fatal("kept too few", l, starts, got, ok)
				}
				return
			}
			if want := keptOf(l, starts); !ok || !sameLadder(got, want) {
				t.Fatal("kept", l, starts, got, ok, want)
			}
			if result := resultOf(got); !sameInts(result, patternOf(resultOf(l), starts)) {
				t.Fatal("not the pattern of those kept", l, starts, result)
			}
		})
	}
	eachLadder(2, 5, keep)
	eachLadder(3, 5, keep)
	eachLadder(4, 4, keep)
	mixed := mixer(14)
	for n := 2; n <= impl.MaxWires; n++ {
		for _, k := range []int{0, 1, 10, 59, 60} {
			l := impl.Ladder{Wires: n}
			for range k {
				l.Rungs = append(l.Rungs, mixed.below(n-1))
			}
			keep(l)
		}
	}
}

func TestSingleStartsKept(t *testing.T) {
	for _, c := range []struct {
		text   string
		starts []int
		want   string
	}{
		{"2:0,0", []int{0, 1}, "2:0,0"}, {"2:-", []int{0, 1}, "2:-"}, {"3:0,1,0", []int{0, 2}, "2:0"}, {"3:0,1,0", []int{0, 1, 2}, "3:0,1,0"},
		{"4:0,1,2", []int{0, 3}, "2:0"}, {"4:0,1,2", []int{1, 2, 3}, "3:-"}, {"4:0,1,2", []int{0, 2, 3}, "3:0,1"}, {"8:-", []int{0, 7}, "2:-"},
		{"8:6,5,4,3,2,1,0", []int{0, 1, 7}, "3:1,0"}, {"5:3,2,0,1,1", []int{0, 1, 4}, "3:0,1,1"}, {"5:3,2,0,1,1", []int{2, 3}, "2:-"},
	} {
		if got, ok := impl.KeepStarts(readLadder(t, c.text), c.starts); textOf(got) != c.want || !ok {
			t.Error("kept", c.text, c.starts, got, ok)
		}
	}
}

func TestWiresArePutIn(t *testing.T) {
	failed := 0
	mergedLadders(func(l impl.Ladder) {
		for at := 0; at <= l.Wires; at++ {
			got, ok := impl.PutWire(l, at)
			if l.Wires == impl.MaxWires || slices.Contains(l.Rungs, at-1) {
				failed++
				if ok || !sameLadder(got, impl.Ladder{}) {
					t.Fatal("put in", l, at, got, ok)
				}
				continue
			}
			if !ok || !impl.IsLadder(got) || got.Wires != l.Wires+1 || slices.Contains(got.Rungs, at) || slices.Contains(got.Rungs, at-1) {
				t.Fatal("put in", l, at, got, ok)
			}
			if taken := must[impl.Ladder](t)(impl.TakeStart(got, at)); !sameLadder(taken, l) {
				t.Fatal("taken out again", l, at, got, taken)
			}
		}
	})
	if failed < 100 {
		t.Error("hardly any wire that cannot be put in", failed)
	}
}

func TestSingleWiresPutIn(t *testing.T) {
	for _, c := range []struct {
		text string
		at   int
		want string
	}{
		{"2:-", 0, "3:-"}, {"2:-", 1, "3:-"}, {"2:-", 2, "3:-"}, {"2:0", 0, "3:1"}, {"2:0", 1, ""}, {"2:0", 2, "3:0"}, {"4:0,2,0", 2, "5:0,3,0"},
		{"4:2,0", 3, ""}, {"4:0,2", 3, ""}, {"4:0,2", 0, "5:1,3"}, {"4:0,2", 4, "5:0,2"}, {"7:5,0,1", 3, "8:6,0,1"}, {"7:5,0,1", 2, ""},
		{"8:-", 0, ""}, {"8:-", 8, ""}, {"8:0", 4, ""},
	} {
		got, ok := impl.PutWire(readLadder(t, c.text), c.at)
		if c.want == "" {
			if ok || !sameLadder(got, impl.Ladder{}) {
				t.Error("put in", c.text, c.at, got, ok)
			}
		} else if textOf(got) != c.want || !ok {
			t.Error("put in", c.text, c.at, got, ok)
		}
	}
}

// fewLadders returns ladders of all numbers of wires, with few rungs and with
// as many as there may be.
func fewLadders() []impl.Ladder {
	mixed := mixer(15)
	var few []impl.Ladder
	for n := 2; n <= impl.MaxWires; n++ {
		for _, k := range []int{0, 1, 2, 5, 15, 16, 30, 31, 59, 60} {
			l := impl.Ladder{Wires: n}
			for range k {
				l.Rungs = append(l.Rungs, mixed.below(n-1))
			}
			few = append(few, l)
		}
	}
	return few
}

func TestLaddersBeside(t *testing.T) {
	for _, a := range fewLadders() {
		for _, b := range fewLadders() {
			got, ok := impl.BesideLadders(a, b)
			if a.Wires+b.Wires > 8 || len(a.Rungs)+len(b.Rungs) > 60 {
				if ok || !sameLadder(got, impl.Ladder{}) {
					t.Fatal("beside", a, b, got, ok)
				}
				continue
			}
			k := len(a.Rungs)
			if !ok || got.Wires != a.Wires+b.Wires || !sameInts(got.Rungs[:k], a.Rungs) || len(got.Rungs) != k+len(b.Rungs) {
				t.Fatal("beside", a, b, got, ok)
			}
			for i, rung := range b.Rungs {
				if got.Rungs[k+i] != a.Wires+rung {
					t.Fatal("beside", a, b, got)
				}
			}
			checkBeside(t, a, b, got)
		}
	}
}

// checkBeside checks that each one goes down as on a ladder alone.
func checkBeside(t *testing.T, a, b, both impl.Ladder) {
	t.Helper()
	want := resultOf(a)
	for _, end := range resultOf(b) {
		want = append(want, a.Wires+end)
	}
	if !sameInts(resultOf(both), want) {
		t.Fatal("result", a, b, both)
	}
	if is, ok := impl.IsSplit(both, a.Wires); !is || !ok {
		t.Fatal("not split", a, b, both)
	}
	parts := must[[]impl.Ladder](t)(impl.SplitLadder(both))
	alone := append(must[[]impl.Ladder](t)(impl.SplitLadder(a)), must[[]impl.Ladder](t)(impl.SplitLadder(b))...)
	if !slices.EqualFunc(parts, alone, sameLadder) {
		t.Fatal("parts", a, b, parts, alone)
	}
}

func TestLaddersAreDoubled(t *testing.T) {
	double := func(l impl.Ladder) {
		got, ok := impl.DoubleLadder(l)
		if l.Wires > 4 || len(l.Rungs) > 15 {
			if ok || !sameLadder(got, impl.Ladder{}) {
				t.Fatal("doubled", l, got, ok)
			}
			return
		}
		var want []int
		for _, rung := range l.Rungs {
			want = append(want, 2*rung+1, 2*rung, 2*rung+2, 2*rung+1)
		}
		if !ok || got.Wires != 2*l.Wires || !sameInts(got.Rungs, want) {
			t.Fatal("doubled", l, got, ok)
		}
		for start, end := range resultOf(l) {
			if both := resultOf(got)[2*start : 2*start+2]; !sameInts(both, []int{2 * end, 2*end + 1}) {
				t.Fatal("a pair comes apart", l, got, start)
			}
		}
		meetings := descentOf(l).meetings
		for a, row := range descentOf(got).meetings {
			for b, times := range row {
				if times != meetings[a/2][b/2] {
					t.Fatal("meetings", l, got, a, b)
				}
			}
		}
	}
	someLadders(double)
	for _, l := range fewLadders() {
		double(l)
	}
}

func TestSingleLaddersMade(t *testing.T) {
	made := func(l impl.Ladder, ok bool) string {
		if !ok {
			return "none"
		}
		return textOf(l)
	}
	for _, c := range []struct{ name, got, want string }{
		{"beside", made(impl.BesideLadders(readLadder(t, "2:0"), readLadder(t, "3:1,0"))), "5:0,3,2"},
		{"beside", made(impl.BesideLadders(readLadder(t, "2:-"), readLadder(t, "2:-"))), "4:-"},
		{"beside", made(impl.BesideLadders(readLadder(t, "6:4"), readLadder(t, "2:0"))), "8:4,6"},
		{"beside", made(impl.BesideLadders(readLadder(t, "7:-"), readLadder(t, "2:-"))), "none"},
		{"doubled", made(impl.DoubleLadder(readLadder(t, "2:-"))), "4:-"},
		{"doubled", made(impl.DoubleLadder(readLadder(t, "2:0"))), "4:1,0,2,1"},
		{"doubled", made(impl.DoubleLadder(readLadder(t, "4:2,0"))), "8:5,4,6,5,1,0,2,1"},
		{"doubled", made(impl.DoubleLadder(readLadder(t, "5:-"))), "none"},
		{"taken", made(impl.TakeStart(readLadder(t, "2:0"), 0)), "none"},
		{"taken", made(impl.TakeStart(readLadder(t, "3:-"), 2)), "2:-"},
		{"taken", made(impl.TakeStart(readLadder(t, "4:0,1,2"), 0)), "3:-"},
		{"taken", made(impl.TakeStart(readLadder(t, "4:0,1,2"), 1)), "3:0,1"},
		{"taken", made(impl.TakeStart(readLadder(t, "4:0,1,2"), 3)), "3:0,1"},
		{"taken", made(impl.TakeStart(readLadder(t, "5:0,1,3,2,1"), 0)), "4:2,1"},
	} {
		if c.got != c.want {
			t.Error(c.name, c.got, c.want)
		}
	}
}

func TestMeetingTables(t *testing.T) {
	mergedLadders(func(l impl.Ladder) {
		got, ok := impl.MeetingTable(l)
		if !ok || !slices.EqualFunc(got, descentOf(l).meetings, sameInts) {
			t.Fatal("table", l, got, ok)
		}
		sum := 0
		for a, row := range got {
			for b, times := range row {
				sum += times
				if met, fine := impl.MeetingsOf(l, a, b); met != times || fine != (a != b) {
					t.Fatal("meetings", l, a, b, met, times)
				}
			}
		}
		if sum != 2*len(l.Rungs) {
			t.Fatal("not twice the rungs", l, got)
		}
	})
}

func TestPatterns(t *testing.T) {
	check := func(p []int) {
		eachSet(len(p), func(places []int) {
			got, ok := impl.PatternOf(p, places)
			if len(places) == 0 {
				if ok || len(got) != 0 {
					t.Fatal("pattern at no place", p, got, ok)
				}
				return
			}
			if !ok || !impl.IsOrder(got) || !sameInts(got, patternOf(p, places)) {
				t.Fatal("pattern", p, places, got, ok)
			}
		})
	}
	for n := 1; n <= 6; n++ {
		eachOrder(n, check)
	}
	mixed := mixer(16)
	for range 50 {
		check(mixed.order(7))
		check(mixed.order(8))
	}
}

// choices returns how many lists of k places there are among n.
func choices(n, k int) int {
	count := 0
	eachSet(n, func(set []int) {
		if len(set) == k {
			count++
		}
	})
	return count
}

func TestPatternsAreCounted(t *testing.T) {
	orders := map[int][][]int{}
	for k := 1; k <= 5; k++ {
		eachOrder(k, func(q []int) { orders[k] = append(orders[k], q) })
	}
	check := func(p []int) {
		counts := map[int]map[orderKey]int{}
		for k := range len(p) + 1 {
			counts[k] = map[orderKey]int{}
		}
		eachSet(len(p), func(places []int) { counts[len(places)][keyOf(patternOf(p, places))]++ })
		for k := 1; k <= 5; k++ {
			sum := 0
			for _, q := range orders[k] {
				got, ok := impl.CountPattern(p, q)
				if got != counts[k][keyOf(q)] || !ok {
					t.Fatal("count", p, q, got, ok)
				}
				sum += got
			}
			if sum != choices(len(p), k) {
				t.Fatal("not all lists of places", p, k, sum)
			}
		}
		if falls := must[int](t)(impl.CountPattern(p, []int{1, 0})); falls != inversions(p) {
			t.Fatal("not the inversions", p, falls)
		}
	}
	for n := 1; n <= 4; n++ {
		eachOrder(n, check)
	}
	mixed := mixer(17)
	for n := 5; n <= impl.MaxWires; n++ {
		check(mixed.order(n))
		check(mixed.order(n))
	}
}

func TestSinglePatternsCounted(t *testing.T) {
	for _, c := range []struct {
		p, q []int
		want int
	}{
		{[]int{0}, []int{0}, 1}, {[]int{0}, []int{0, 1}, 0}, {[]int{0, 1, 2, 3, 4, 5, 6, 7}, []int{0, 1, 2, 3}, 70},
		{[]int{0, 1, 2, 3, 4, 5, 6, 7}, []int{0, 1, 2, 3, 4, 5, 6, 7}, 1}, {[]int{7, 6, 5, 4, 3, 2, 1, 0}, []int{0, 1}, 0},
		{[]int{7, 6, 5, 4, 3, 2, 1, 0}, []int{0}, 8}, {[]int{3, 1, 4, 0, 2}, []int{1, 2, 0}, 3}, {[]int{3, 1, 4, 0, 2}, []int{1, 0, 2}, 2},
		{[]int{1, 0}, []int{0, 1, 2, 3, 4, 5, 6, 7}, 0},
	} {
		if got, ok := impl.CountPattern(c.p, c.q); got != c.want || !ok {
			t.Error("count", c.p, c.q, got, ok)
		}
	}
}

// somePrizes returns prizes for n wires: different ones, equal ones, and both.
func somePrizes(n int) []string {
	return []string{"abcdefgh"[:n], "zyxwvuts"[:n], strings.Repeat("q", n), "azazazaz"[:n], "bbbbbbba"[8-n:], "aabbccdd"[:n]}
}

func TestPrizesGoWhereResultsLead(t *testing.T) {
	mergedLadders(func(l impl.Ladder) {
		ways := descentOf(l).ways
		for _, prizes := range somePrizes(l.Wires) {
			got, ok := impl.PrizesOf(l, prizes)
			if !ok || len(got) != l.Wires {
				t.Fatal("prizes", l, prizes, got, ok)
			}
			for start, way := range ways {
				if got[start] != prizes[way[len(l.Rungs)]] {
					t.Fatal("prize", l, prizes, start, got)
				}
			}
		}
	})
}

func TestStartsForPrizes(t *testing.T) {
	mergedLadders(func(l impl.Ladder) {
		result := resultOf(l)
		for _, prizes := range somePrizes(l.Wires) {
			for letter := 'a'; letter <= 'z'; letter++ {
				var want []int
				for start, end := range result {
					if rune(prizes[end]) == letter {
						want = append(want, start)
					}
				}
				if got, ok := impl.StartsFor(l, prizes, string(letter)); !ok || !sameInts(got, want) {
					t.Fatal("starts", l, prizes, string(letter), got, ok)
				}
			}
		}
	})
}

func TestSinglePrizes(t *testing.T) {
	for _, c := range []struct{ text, prizes, want string }{
		{"3:0,1,0", "abc", "cba"}, {"3:0,1", "abc", "cab"}, {"3:0,1", "xxy", "yxx"}, {"2:-", "az", "az"}, {"2:0", "az", "za"}, {"2:0", "mm", "mm"},
		{"8:0,1,2,3,4,5,6", "abcdefgh", "habcdefg"}, {"8:-", "zzzzzzzz", "zzzzzzzz"},
	} {
		if got, ok := impl.PrizesOf(readLadder(t, c.text), c.prizes); got != c.want || !ok {
			t.Error("prizes", c.text, c.prizes, got, ok)
		}
	}
	for _, c := range []struct {
		text, prizes, prize string
		want                []int
	}{
		{"3:0,1", "xxy", "x", []int{1, 2}}, {"3:0,1", "xxy", "y", []int{0}}, {"3:0,1", "xxy", "z", nil}, {"8:-", "aaaaaaaa", "a", []int{0, 1, 2, 3, 4, 5, 6, 7}},
	} {
		if got, ok := impl.StartsFor(readLadder(t, c.text), c.prizes, c.prize); !sameInts(got, c.want) || !ok {
			t.Error("starts", c.text, c.prizes, c.prize, got, ok)
		}
	}
}

// givenBy returns the prizes of the starts.
func givenBy(l impl.Ladder, prizes string) string {
	given := ""
	for _, end := range resultOf(l) {
		given += prizes[end : end+1]
	}
	return given
}

func TestSamePrizes(t *testing.T) {
	found := map[bool]int{}
	check := func(a, b impl.Ladder) {
		for _, prizes := range somePrizes(a.Wires) {
			want := givenBy(a, prizes) == givenBy(b, prizes)
			found[want]++
			if got, ok := impl.AreSameFor(a, b, prizes); got != want || !ok {
				t.Fatal("same", a, b, prizes, got, ok)
			}
		}
	}
	eachLadder(3, 4, func(a impl.Ladder) {
		eachLadder(3, 3, func(b impl.Ladder) { check(a, b) })
	})
	for _, a := range fewLadders() {
		for _, b := range fewLadders() {
			if a.Wires == b.Wires {
				check(a, b)
			}
		}
	}
	if found[true] < 100 || found[false] < 100 {
		t.Error("hardly any ladders of one kind", found)
	}
}

func TestSingleSamePrizes(t *testing.T) {
	for _, c := range []struct {
		a, b, prizes string
		want         bool
	}{
		{"3:0,1,0", "3:1,0,1", "abc", true}, {"3:0", "3:1", "abc", false}, {"3:0", "3:1", "aab", false}, {"3:0", "3:1", "ccc", true},
		{"3:0", "3:-", "aab", true}, {"3:0", "3:-", "baa", false}, {"8:0,0", "8:-", "abcdefgh", true}, {"8:6", "8:-", "abcdefgh", false},
	} {
		if got, ok := impl.AreSameFor(readLadder(t, c.a), readLadder(t, c.b), c.prizes); got != c.want || !ok {
			t.Error("same", c.a, c.b, c.prizes, got, ok)
		}
	}
}

// partsOf returns the parts of at least two wires that hang together, each
// grown to the right a wire at a time.
func partsOf(l impl.Ladder) []impl.Ladder {
	var parts []impl.Ladder
	for first := 0; first < l.Wires; {
		last := first
		for slices.Contains(l.Rungs, last) {
			last++
		}
		part := impl.Ladder{Wires: last - first + 1}
		for _, rung := range l.Rungs {
			if first <= rung && rung+1 <= last {
				part.Rungs = append(part.Rungs, rung-first)
			}
		}
		if part.Wires > 1 {
			parts = append(parts, part)
		}
		first = last + 1
	}
	return parts
}

func TestLaddersAreSplit(t *testing.T) {
	found := map[int]int{}
	mergedLadders(func(l impl.Ladder) {
		want := partsOf(l)
		found[len(want)]++
		got, ok := impl.SplitLadder(l)
		if !ok || !slices.EqualFunc(got, want, sameLadder) {
			t.Fatal("parts", l, got, ok, want)
		}
		for at := 1; at < l.Wires; at++ {
			if is, ok := impl.IsSplit(l, at); is == slices.Contains(l.Rungs, at-1) || !ok {
				t.Fatal("split", l, at, is, ok)
			}
		}
	})
	for parts := range 4 {
		if found[parts] == 0 {
			t.Error("no ladder with so many parts", parts)
		}
	}
}

func TestSingleSplits(t *testing.T) {
	for _, c := range []struct {
		text  string
		parts []string
	}{
		{"2:-", nil}, {"8:-", nil}, {"2:0", []string{"2:0"}}, {"3:1", []string{"2:0"}}, {"3:0,1,0", []string{"3:0,1,0"}},
		{"8:0,2,4,6", []string{"2:0", "2:0", "2:0", "2:0"}}, {"8:6,0,6,2,3,0", []string{"2:0,0", "3:0,1", "2:0,0"}}, {"8:3", []string{"2:0"}},
		{"5:3,0", []string{"2:0", "2:0"}}, {"8:0,1,2,3,4,5,6", []string{"8:0,1,2,3,4,5,6"}},
	} {
		var texts []string
		parts, ok := impl.SplitLadder(readLadder(t, c.text))
		for _, part := range parts {
			texts = append(texts, textOf(part))
		}
		if !ok || !slices.Equal(texts, c.parts) {
			t.Error("parts", c.text, texts, ok)
		}
	}
}

func TestThroughWires(t *testing.T) {
	mergedLadders(func(l impl.Ladder) {
		ways := descentOf(l).ways
		for wire := range l.Wires {
			var want []int
			for start, way := range ways {
				if slices.Contains(way, wire) {
					want = append(want, start)
				}
			}
			if got, ok := impl.ThroughWire(l, wire); !ok || !sameInts(got, want) {
				t.Fatal("through", l, wire, got, ok, want)
			}
		}
	})
}

func TestRungsOn(t *testing.T) {
	mergedLadders(func(l impl.Ladder) {
		var counts, staying []int
		for start, used := range descentOf(l).used {
			counts = append(counts, len(used))
			if len(used) == 0 {
				staying = append(staying, start)
			}
		}
		if got, ok := impl.RungsOn(l); !ok || !sameInts(got, counts) {
			t.Fatal("rungs", l, got, ok)
		}
		if got, ok := impl.StaysOn(l); !ok || !sameInts(got, staying) {
			t.Fatal("stay", l, got, ok)
		}
	})
}

func TestSingleWires(t *testing.T) {
	for _, c := range []struct {
		text          string
		wire          int
		through       []int
		stay, on      []int
		meetsOfFirst0 []int
	}{
		{"2:-", 0, []int{0}, []int{0, 1}, []int{0, 0}, []int{0, 0}},
		{"2:0,0", 1, []int{0, 1}, nil, []int{2, 2}, []int{0, 2}},
		{"3:0,1,0", 0, []int{0, 1, 2}, nil, []int{2, 2, 2}, []int{0, 1, 1}},
		{"3:0,1", 2, []int{0, 2}, nil, []int{2, 1, 1}, []int{0, 1, 1}},
		{"8:0,6", 4, []int{4}, []int{2, 3, 4, 5}, []int{1, 1, 0, 0, 0, 0, 1, 1}, []int{0, 1, 0, 0, 0, 0, 0, 0}},
		{"4:1,2,1,1", 1, []int{1, 2, 3}, []int{0}, []int{0, 2, 3, 3}, []int{0, 0, 0, 0}},
	} {
		l := readLadder(t, c.text)
		if got, ok := impl.ThroughWire(l, c.wire); !sameInts(got, c.through) || !ok {
			t.Error("through", c.text, c.wire, got, ok)
		}
		if got, ok := impl.StaysOn(l); !sameInts(got, c.stay) || !ok {
			t.Error("stay", c.text, got, ok)
		}
		if got, ok := impl.RungsOn(l); !sameInts(got, c.on) || !ok {
			t.Error("on", c.text, got, ok)
		}
		if got, ok := impl.MeetingTable(l); !ok || len(got) != l.Wires || !sameInts(got[0], c.meetsOfFirst0) {
			t.Error("meetings", c.text, got, ok)
		}
	}
}
