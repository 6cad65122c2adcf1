package tests

import (
	"math/big"
	"slices"
	"testing"

	"loop.example/g01209/impl"
)

// This file tests promise 4.

// tally tells of all ladders of k rungs on n wires how many have each result,
// and how often two meet on all of them together.
type tally struct {
	n, k     int
	all      int
	orders   map[orderKey]int
	meetings [][]int
}

func newTally(n, k int) tally {
	t := tally{n: n, k: k, orders: map[orderKey]int{}, meetings: make([][]int, n)}
	for a := range t.meetings {
		t.meetings[a] = make([]int, n)
	}
	return t
}

// shortTallies returns the tallies of 0..most rungs. All ladders are gone
// down.
func shortTallies(n, most int) []tally {
	tallies := make([]tally, most+1)
	for k := range tallies {
		tallies[k] = newTally(n, k)
	}
	eachLadder(n, most, func(l impl.Ladder) {
		t := &tallies[len(l.Rungs)]
		t.all++
		t.orders[keyOf(resultOf(l))]++
		for a, row := range descentOf(l).meetings {
			for b, count := range row {
				t.meetings[a][b] += count
			}
		}
	})
	return tallies
}

// below returns the tally of all ladders of t with those of low below them.
func (t tally) below(low tally) tally {
	both := newTally(t.n, t.k+low.k)
	both.all = t.all * low.all
	for a := range t.n {
		for b := range t.n {
			both.meetings[a][b] = t.meetings[a][b] * low.all
		}
	}
	for p, count := range t.orders {
		for q, lower := range low.orders {
			both.orders[keyOf(thenOf(p[:t.n], q[:t.n]))] += count * lower
		}
		for a := range t.n {
			for b := range t.n {
				both.meetings[a][b] += count * low.meetings[p[a]][p[b]]
			}
		}
	}
	return both
}

func thenOf(p, q []int) []int {
	both := make([]int, len(p))
	for i, middle := range p {
		both[i] = q[middle]
	}
	return both
}

// sum adds what f tells of each result.
func (t tally) sum(f func(p []int) int) int {
	sum := 0
	for p, count := range t.orders {
		sum += count * f(p[:t.n])
	}
	return sum
}

// ends returns in how many ladders each start comes out at each end.
func (t tally) ends() [][]int {
	ends := newTally(t.n, t.k).meetings
	for p, count := range t.orders {
		for start, end := range p[:t.n] {
			ends[start][end] += count
		}
	}
	return ends
}

// eachTally calls f for all numbers of wires and of rungs that fall.
func eachTally(f func(t tally)) {
	for n := 2; n <= 6; n++ {
		// So many ladders are gone down, and longer ones are put together.
		most := []int{2: 20, 3: 12, 4: 8, 5: 6, 6: 5}[n]
		tallies := shortTallies(n, most)
		for k := most + 1; k <= 20; k++ {
			tallies = append(tallies, tallies[k-most].below(tallies[most]))
		}
		for _, t := range tallies {
			f(t)
		}
	}
}

// inversions counts the inversions of an order.
func inversions(p []int) int {
	count := 0
	for i := range p {
		for _, behind := range p[i:] {
			if behind < p[i] {
				count++
			}
		}
	}
	return count
}

// isRatio reports whether r is num / den, in lowest terms.
func isRatio(r impl.Ratio, num, den int) bool {
	want := big.NewRat(int64(num), int64(den))
	return big.NewInt(int64(r.Num)).Cmp(want.Num()) == 0 && big.NewInt(int64(r.Den)).Cmp(want.Denom()) == 0
}

func TestExampleOfChapter4(t *testing.T) {
	for k := range 21 {
		for end, want := range []int{1 - k%2, k % 2} {
			if r := must[impl.Ratio](t)(impl.ChanceOf(2, k, 0, end)); r != (impl.Ratio{Num: want, Den: 1}) {
				t.Error("two wires", k, end, r)
			}
		}
	}
	want := []impl.Ratio{{Num: 1, Den: 2}, {Num: 1, Den: 4}, {Num: 1, Den: 4}}
	if chances := must[[]impl.Ratio](t)(impl.ChancesFrom(3, 2, 0)); !slices.Equal(chances, want) {
		t.Error("chances", chances)
	}
	for text, end := range map[string]int{"3:0,0": 0, "3:1,1": 0, "3:1,0": 1, "3:0,1": 2} {
		l := must[impl.Ladder](t)(impl.ParseLadder(text))
		if e := must[int](t)(impl.EndOf(l, 0)); e != end {
			t.Error("end", text, e)
		}
	}
}

func TestLimitOfChapter4(t *testing.T) {
	if impl.MaxFall != 20 {
		t.Error("limit", impl.MaxFall)
	}
}

func TestNumbersOfLadders(t *testing.T) {
	for _, c := range []struct{ n, k, want int }{
		{2, 0, 1}, {2, 20, 1}, {3, 1, 2}, {3, 20, 1 << 20}, {4, 3, 27}, {4, 20, 3486784401}, {5, 20, 1 << 40}, {6, 0, 1}, {6, 20, 95367431640625},
	} {
		if all, ok := impl.CountLadders(c.n, c.k); !ok || all != c.want {
			t.Error("ladders", c, all, ok)
		}
	}
}

func TestEndsOfFallenRungs(t *testing.T) {
	eachTally(func(of tally) {
		if all, ok := impl.CountLadders(of.n, of.k); !ok || all != of.all {
			t.Fatal("ladders", of.n, of.k, all, ok)
		}
		gap := 0
		for start, counts := range of.ends() {
			chances, okAll := impl.ChancesFrom(of.n, of.k, start)
			if !okAll || len(chances) != of.n {
				t.Fatal("chances", of.n, of.k, start, chances, okAll)
			}
			for end, want := range counts {
				count, okCount := impl.CountEnds(of.n, of.k, start, end)
				chance, okChance := impl.ChanceOf(of.n, of.k, start, end)
				if !okCount || count != want || !okChance || !isRatio(chance, want, of.all) || chances[end] != chance {
					t.Fatal("ends", of.n, of.k, start, end, count, okCount, chance, okChance, chances)
				}
			}
			gap = max(gap, slices.Max(counts)-slices.Min(counts))
		}
		if got, ok := impl.GapOf(of.n, of.k); !ok || !isRatio(got, gap, of.all) {
			t.Fatal("gap", of.n, of.k, got, ok)
		}
	})
}

// TestChancesAddUpToOne checks that the chances of one start, and those of one
// end, are one together.
func TestChancesAddUpToOne(t *testing.T) {
	for n := 2; n <= 6; n++ {
		for k := range 21 {
			toEnds := make([]*big.Rat, n)
			for end := range toEnds {
				toEnds[end] = new(big.Rat)
			}
			for start := range n {
				sum := new(big.Rat)
				for end, r := range must[[]impl.Ratio](t)(impl.ChancesFrom(n, k, start)) {
					chance := big.NewRat(int64(r.Num), int64(r.Den))
					sum.Add(sum, chance)
					toEnds[end].Add(toEnds[end], chance)
				}
				if sum.Cmp(big.NewRat(1, 1)) != 0 {
					t.Error("from", n, k, start, sum)
				}
			}
			for end, sum := range toEnds {
				if sum.Cmp(big.NewRat(1, 1)) != 0 {
					t.Error("to", n, k, end, sum)
				}
			}
		}
	}
}

func TestOrdersOfFallenRungs(t *testing.T) {
	eachTally(func(of tally) {
		if of.n > 5 {
			return
		}
		var best []int
		most := 0
		// Orders come in their own order, so that the first one of several is
		// kept.
		eachOrder(of.n, func(p []int) {
			want := of.orders[keyOf(p)]
			if want > most {
				best, most = p, want
			}
			count, okCount := impl.CountForOrder(of.n, of.k, p)
			chance, okChance := impl.ChanceOfOrder(of.n, of.k, p)
			if !okCount || count != want || !okChance || !isRatio(chance, want, of.all) {
				t.Fatal("order", of.n, of.k, p, count, okCount, chance, okChance)
			}
		})
		if made, ok := impl.CountOrdersMade(of.n, of.k); !ok || made != len(of.orders) {
			t.Fatal("made", of.n, of.k, made, ok)
		}
		if got, ok := impl.LikeliestOrder(of.n, of.k); !ok || !sameInts(got, best) {
			t.Fatal("likeliest", of.n, of.k, got, best, ok)
		}
	})
}

// TestOrdersFollowTheirParity checks that k rungs make orders with the sign of
// k only, and with at most k inversions, and all of these.
func TestOrdersFollowTheirParity(t *testing.T) {
	for n := 2; n <= 5; n++ {
		for _, k := range []int{0, 1, 2, 3, 5, 6, 9, 10, 19, 20} {
			sum := 0
			eachOrder(n, func(p []int) {
				count := must[int](t)(impl.CountForOrder(n, k, p))
				can := inversions(p)%2 == k%2 && inversions(p) <= k
				if can != (count > 0) {
					t.Fatal("parity", n, k, p, count)
				}
				sum += count
			})
			if all := must[int](t)(impl.CountLadders(n, k)); sum != all {
				t.Error("sum", n, k, sum, all)
			}
		}
	}
}

// TestTheFirstOfSeveralIsLikeliest has orders that are equally likely.
func TestTheFirstOfSeveralIsLikeliest(t *testing.T) {
	for _, c := range []struct {
		n, k int
		want []int
	}{
		{2, 0, []int{0, 1}}, {2, 1, []int{1, 0}}, {3, 1, []int{0, 2, 1}}, {3, 2, []int{0, 1, 2}}, {4, 1, []int{0, 1, 3, 2}}, {5, 0, []int{0, 1, 2, 3, 4}},
		{5, 1, []int{0, 1, 2, 4, 3}},
	} {
		if p, ok := impl.LikeliestOrder(c.n, c.k); !ok || !sameInts(p, c.want) {
			t.Error("likeliest", c, p, ok)
		}
	}
}

func TestMeansOfFallenRungs(t *testing.T) {
	eachTally(func(of tally) {
		for a, row := range of.meetings {
			for b, want := range row {
				if a == b {
					fails(t, "MeanMeetings", impl.MeanMeetings, of.n, of.k, a, b)
				} else if mean, ok := impl.MeanMeetings(of.n, of.k, a, b); !ok || !isRatio(mean, want, of.all) {
					t.Fatal("meetings", of.n, of.k, a, b, mean, ok)
				}
			}
		}
		if mean, ok := impl.MeanInversions(of.n, of.k); !ok || !isRatio(mean, of.sum(inversions), of.all) {
			t.Fatal("inversions", of.n, of.k, mean, ok)
		}
		home := of.sum(func(p []int) int {
			at := 0
			for start, end := range p {
				if start == end {
					at++
				}
			}
			return at
		})
		if mean, ok := impl.MeanAtHome(of.n, of.k); !ok || !isRatio(mean, home, of.all) {
			t.Fatal("at home", of.n, of.k, mean, ok)
		}
	})
}

// TestTwoMeetAtEachRung checks that the means of all pairs are as many as
// rungs together.
func TestTwoMeetAtEachRung(t *testing.T) {
	for n := 2; n <= 6; n++ {
		for k := range 21 {
			sum := new(big.Rat)
			for a := range n {
				for b := range a {
					mean := must[impl.Ratio](t)(impl.MeanMeetings(n, k, a, b))
					sum.Add(sum, big.NewRat(int64(mean.Num), int64(mean.Den)))
				}
			}
			if sum.Cmp(big.NewRat(int64(k), 1)) != 0 {
				t.Error("meetings", n, k, sum)
			}
		}
	}
}

// TestNoRungFalls has the one ladder without rungs.
func TestNoRungFalls(t *testing.T) {
	ratio := must[impl.Ratio](t)
	for n := 2; n <= 6; n++ {
		home := []int{0, 1, 2, 3, 4, 5}[:n]
		if must[int](t)(impl.CountLadders(n, 0)) != 1 || must[int](t)(impl.CountEnds(n, 0, 1, 1)) != 1 || must[int](t)(impl.CountEnds(n, 0, 0, 1)) != 0 {
			t.Error("counts", n)
		}
		if ratio(impl.ChanceOf(n, 0, 0, 0)) != (impl.Ratio{Num: 1, Den: 1}) || ratio(impl.ChanceOf(n, 0, 0, 1)) != (impl.Ratio{Num: 0, Den: 1}) {
			t.Error("chances", n)
		}
		if ratio(impl.GapOf(n, 0)) != (impl.Ratio{Num: 1, Den: 1}) || ratio(impl.MeanAtHome(n, 0)) != (impl.Ratio{Num: n, Den: 1}) {
			t.Error("gap or home", n)
		}
		if ratio(impl.MeanMeetings(n, 0, 1, 0)) != (impl.Ratio{Num: 0, Den: 1}) || ratio(impl.MeanInversions(n, 0)) != (impl.Ratio{Num: 0, Den: 1}) {
			t.Error("means", n)
		}
		if n == 6 {
			continue
		}
		if must[int](t)(impl.CountForOrder(n, 0, home)) != 1 || must[int](t)(impl.CountOrdersMade(n, 0)) != 1 {
			t.Error("orders", n)
		}
		if p := must[[]int](t)(impl.LikeliestOrder(n, 0)); !sameInts(p, home) {
			t.Error("likeliest", n, p)
		}
	}
}

func TestFirstAll(t *testing.T) {
	first := map[int]int{}
	made := map[int]int{}
	eachTally(func(of tally) {
		_, known := first[of.n]
		if all := []int{2: 2, 3: 6, 4: 24, 5: 120, 6: 720}[of.n]; !known && of.k > 0 && made[of.n]+len(of.orders) == all {
			first[of.n] = of.k - 1
		}
		made[of.n] = len(of.orders)
	})
	for n := 2; n <= 5; n++ {
		if k, ok := impl.FirstAll(n); !ok || k != first[n] || k != n*(n-1)/2-1 {
			t.Error("first", n, k, ok, first[n])
		}
	}
}
