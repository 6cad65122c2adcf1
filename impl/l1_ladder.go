package impl

import (
	"slices"
	"strconv"
	"strings"
)

const MaxWires = 8
const MaxRungs = 60

type Ladder struct {
	Wires int
	Rungs []int
}

// seats holds an order, with the numbers behind it at their own places, so
// that == compares orders of as many numbers.
type seats [MaxWires]int

// seatsOf returns the seats of a list of at most MaxWires numbers.
func seatsOf(p []int) seats {
	var s seats
	for i := range s {
		s[i] = i
	}
	copy(s[:], p)
	return s
}

// then returns the seats of s and then those of next.
func (s seats) then(next seats) seats {
	for i, middle := range s {
		s[i] = next[middle]
	}
	return s
}

// ladderOf returns the ladder with parts of rungs one below the other, in new
// memory. It fails if that is no ladder.
func ladderOf(wires int, parts ...[]int) (Ladder, bool) {
	l := Ladder{Wires: wires, Rungs: slices.Concat(parts...)}
	if !IsLadder(l) {
		return Ladder{}, false
	}
	return l, true
}

// IsLadder reports whether l, whose numbers may be any, is a ladder.
func IsLadder(l Ladder) bool {
	if l.Wires < 2 || l.Wires > MaxWires || len(l.Rungs) > MaxRungs {
		return false
	}
	for _, rung := range l.Rungs {
		if rung < 0 || rung > l.Wires-2 {
			return false
		}
	}
	return true
}

// isStart reports whether l is a ladder and start one of its wires.
func isStart(l Ladder, start int) bool {
	return IsLadder(l) && start >= 0 && start < l.Wires
}

// wayDown returns the wires on which one is, at first and behind each rung.
func wayDown(rungs []int, start int) []int {
	at := start
	way := make([]int, 0, len(rungs)+1)
down:
	for depth := 0; ; depth++ {
		way = append(way, at)
		switch {
		case depth == len(rungs):
			break down
		case at == rungs[depth]:
			at++
		case at == rungs[depth]+1:
			at--
		}
	}
	return way
}

// endOf returns the wire at whose bottom one comes out.
func endOf(rungs []int, start int) int {
	return wayDown(rungs, start)[len(rungs)]
}

// EndOf returns the wire at whose bottom one comes out.
func EndOf(l Ladder, start int) (int, bool) {
	if !isStart(l, start) {
		return 0, false
	}
	return endOf(l.Rungs, start), true
}

// WayDown returns the wires on which one is, at first and behind each rung: one more than rungs.
func WayDown(l Ladder, start int) ([]int, bool) {
	if !isStart(l, start) {
		return nil, false
	}
	return wayDown(l.Rungs, start), true
}

// ResultOf returns the result.
func ResultOf(l Ladder) ([]int, bool) {
	if !IsLadder(l) {
		return nil, false
	}
	result := make([]int, l.Wires)
	for start := range result {
		result[start] = endOf(l.Rungs, start)
	}
	return result, true
}

// RungsUsed returns the indices, from the top, of the rungs that one goes over, increasing.
func RungsUsed(l Ladder, start int) ([]int, bool) {
	if !isStart(l, start) {
		return nil, false
	}
	var used []int
	way := wayDown(l.Rungs, start)
	for i := range l.Rungs {
		if way[i] != way[i+1] {
			used = append(used, i)
		}
	}
	return used, true
}

// MeetingsOf returns at how many rungs two who start at a and at b, which differ, meet.
func MeetingsOf(l Ladder, a int, b int) (int, bool) {
	if !isStart(l, a) || !isStart(l, b) || a == b {
		return 0, false
	}
	meetings := 0
	wayA, wayB := wayDown(l.Rungs, a), wayDown(l.Rungs, b)
	for i := range l.Rungs {
		if wayA[i] == wayB[i+1] && wayB[i] == wayA[i+1] {
			meetings++
		}
	}
	return meetings, true
}

// IsOrder reports whether p, whose numbers may be any, is an order.
func IsOrder(p []int) bool {
	if len(p) < 1 || len(p) > MaxWires {
		return false
	}
	sorted := seatsOf(p)
	slices.Sort(sorted[:])
	return sorted == seatsOf(nil)
}

// ThenOrder returns the order that has at i the number q[p[i]]: p and then q, of the same length.
func ThenOrder(p []int, q []int) ([]int, bool) {
	if !IsOrder(p) || !IsOrder(q) || len(p) != len(q) {
		return nil, false
	}
	both := seatsOf(p).then(seatsOf(q))
	return slices.Clone(both[:len(p)]), true
}

// BackOrder returns the order that has i at the place p[i].
func BackOrder(p []int) ([]int, bool) {
	if !IsOrder(p) {
		return nil, false
	}
	back := make([]int, len(p))
	for i, place := range p {
		back[place] = i
	}
	return back, true
}

// OrderTimes returns how often an order has to be done, at least once, so that each number is at its place: the least number.
func OrderTimes(p []int) (int, bool) {
	if !IsOrder(p) {
		return 0, false
	}
	once, home := seatsOf(p), seatsOf(nil)
	times := 1
	for now := once; now != home; now = now.then(once) {
		times++
	}
	return times, true
}

// BelowLadder returns the ladder with the rungs of b below those of a, for ladders with as many wires.
func BelowLadder(a Ladder, b Ladder) (Ladder, bool) {
	if !IsLadder(a) || !IsLadder(b) || a.Wires != b.Wires {
		return Ladder{}, false
	}
	return ladderOf(a.Wires, a.Rungs, b.Rungs)
}

// TurnLadder returns the ladder upside down: its result is BackOrder.
func TurnLadder(l Ladder) (Ladder, bool) {
	if !IsLadder(l) {
		return Ladder{}, false
	}
	turned, ok := ladderOf(l.Wires, l.Rungs)
	slices.Reverse(turned.Rungs)
	return turned, ok
}

// MirrorLadder returns the ladder with left and right exchanged.
func MirrorLadder(l Ladder) (Ladder, bool) {
	if !IsLadder(l) {
		return Ladder{}, false
	}
	mirrored, ok := ladderOf(l.Wires, l.Rungs)
	for i, rung := range l.Rungs {
		mirrored.Rungs[i] = l.Wires - 2 - rung
	}
	return mirrored, ok
}

// AddRung returns the ladder with a rung that has the index at, in 0 up to the number of rungs.
func AddRung(l Ladder, at int, rung int) (Ladder, bool) {
	if !IsLadder(l) || at < 0 || at > len(l.Rungs) {
		return Ladder{}, false
	}
	return ladderOf(l.Wires, l.Rungs[:at], []int{rung}, l.Rungs[at:])
}

// TakeRung returns the ladder without the rung with an index.
func TakeRung(l Ladder, at int) (Ladder, bool) {
	if !IsLadder(l) || at < 0 || at >= len(l.Rungs) {
		return Ladder{}, false
	}
	return ladderOf(l.Wires, l.Rungs[:at], l.Rungs[at+1:])
}

// RepeatLadder returns the ladder k times below itself, k at least 0: without rungs for 0.
func RepeatLadder(l Ladder, k int) (Ladder, bool) {
	if !IsLadder(l) || k < 0 {
		return Ladder{}, false
	}
	// Without rungs there is nothing to repeat, so that any k succeeds.
	if len(l.Rungs) == 0 {
		k = 0
	}
	if k > MaxRungs {
		return Ladder{}, false
	}
	return ladderOf(l.Wires, slices.Repeat([][]int{l.Rungs}, k)...)
}

// SignOf returns 1 or -1, the sign of an order: that of a result is 1 exactly if the ladder has an even number of rungs.
func SignOf(p []int) (int, bool) {
	cycles, ok := CyclesOf(p)
	if !ok {
		return 0, false
	}
	// A cycle is made by one exchange less than it has numbers.
	if (len(p)-len(cycles))%2 == 0 {
		return 1, true
	}
	return -1, true
}

// CyclesOf returns the cycles of an order, each from its least number on, i before p[i], ordered by these.
func CyclesOf(p []int) ([][]int, bool) {
	if !IsOrder(p) {
		return nil, false
	}
	var cycles [][]int
	var seen [MaxWires]bool
	for least := range p {
		var cycle []int
		for at := least; !seen[at]; at = p[at] {
			seen[at] = true
			cycle = append(cycle, at)
		}
		if len(cycle) > 0 {
			cycles = append(cycles, cycle)
		}
	}
	return cycles, true
}

// LadderText returns the number of wires, :, and the rungs with , between them, or - for none.
func LadderText(l Ladder) (string, bool) {
	if !IsLadder(l) {
		return "", false
	}
	return strconv.Itoa(l.Wires) + ":" + listText(l.Rungs), true
}

// listText returns the numbers with , between them, or - for none.
func listText(numbers []int) string {
	words := make([]string, len(numbers))
	for i, number := range numbers {
		words[i] = strconv.Itoa(number)
	}
	return joined(words, ",")
}

// joined returns the words with a separator between them, or - for none.
func joined(words []string, separator string) string {
	if len(words) == 0 {
		return "-"
	}
	return strings.Join(words, separator)
}

// readList returns the numbers of a text with , between them, or none for -.
// It accepts signs and superfluous zeros.
func readList(text string) ([]int, bool) {
	if text == "-" {
		return nil, true
	}
	words := strings.Split(text, ",")
	numbers := make([]int, len(words))
	for i, word := range words {
		number, err := strconv.Atoi(word)
		if err != nil {
			return nil, false
		}
		numbers[i] = number
	}
	return numbers, true
}

// ParseLadder returns the ladder with a LadderText. It fails if there is none.
func ParseLadder(s string) (Ladder, bool) {
	first, rest, _ := strings.Cut(s, ":")
	wires, err := strconv.Atoi(first)
	rungs, ok := readList(rest)
	if err != nil || !ok {
		return Ladder{}, false
	}
	l := Ladder{Wires: wires, Rungs: rungs}
	// Only the text that is written for a ladder is its text: this leaves out
	// signs and superfluous zeros.
	if text, ok := LadderText(l); !ok || text != s {
		return Ladder{}, false
	}
	return l, true
}
