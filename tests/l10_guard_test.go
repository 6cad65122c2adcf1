package tests

import (
	"reflect"
	"strings"
	"testing"

	"loop.example/g01209/impl"
)

// This file tests promise 11 for chapter 10.

var consoleCalls = map[string]any{
	"DeskLine": impl.DeskLine, "RunScript": impl.RunScript, "DeskAfter": impl.DeskAfter, "FailedLines": impl.FailedLines,
}

// knownLines has one line of each kind, and some that are refused.
func knownLines() []string {
	return []string{
		"ladder 8:0,6,3", "ladder 2:-", "rung 0 0", "rung 2 1", "take 0", "take 1", "turn", "mirror", "do s0", "do f0", "do d0", "do ", "reduce", "show", "turned", "end 0",
		"end 2", "result", "moves", "count 2,1,0", "count 0", "least 2,0,1", "least 0", "chance 3 2 0 1", "chance 9 9 9 9", "takes", "levels", "route 1,0,3,2", "route 0",
		"", " ", "fly", "end -1", "end 18446744073709551616", "count 0,0", "ladder 9:-", "\x00", "\xff\xfe", "١", strings.Repeat(" ", 3000), strings.Repeat(" ", 3001), "show\n",
		strings.Repeat("9", 3000), "end " + strings.Repeat("9", 2996), "count " + strings.Repeat("0,", 1497), "ladder 8:" + strings.Repeat("0,", 1495), "do " + strings.Repeat("f", 2997),
		strings.Repeat("x", 100000), "ladder 8:" + strings.Repeat("0,", 50000) + "0",
	}
}

func someDesks() []impl.Desk {
	var desks []impl.Desk
	for _, l := range append(validLadders(), invalidLadders()...) {
		desks = append(desks, impl.Desk{Ladder: l}, impl.Desk{Ladder: l, Turned: true})
	}
	return desks
}

func TestConsoleCallsAcceptAllArguments(t *testing.T) {
	pools := map[reflect.Type][]reflect.Value{}
	pool(pools, someDesks()...)
	pool(pools, knownLines()...)
	pool(pools, strings.Join(knownLines()[:38], "\n")+"\n", strings.Repeat("\n", 50), strings.Repeat("\n", 51), "\n", "show", "show\nshow")
	for _, line := range knownLines() {
		pool(pools, line+"\n", line+"\nturn\n"+line+"\n")
	}
	for name, f := range consoleCalls {
		sweep(t, name, f, pools)
	}
	sweep(t, "IsDesk", impl.IsDesk, pools)
}

// TestNoDeskFails takes each kind of line on what is no desk.
func TestNoDeskFails(t *testing.T) {
	for _, turned := range []bool{false, true} {
		for _, l := range validLadders() {
			d := impl.Desk{Ladder: l, Turned: turned}
			succeeds(t, "IsDesk", impl.IsDesk, d)
			for _, line := range knownLines()[:40] {
				succeeds(t, "DeskLine", impl.DeskLine, d, line)
			}
		}
		for _, l := range invalidLadders() {
			d := impl.Desk{Ladder: l, Turned: turned}
			fails(t, "IsDesk", impl.IsDesk, d)
			for _, line := range knownLines() {
				fails(t, "DeskLine", impl.DeskLine, d, line)
			}
		}
	}
}

// TestDesksShareNothing changes the desk behind a line and looks at the one
// before it.
func TestDesksShareNothing(t *testing.T) {
	for _, line := range knownLines()[:40] {
		d := deskOf(t, "4:0,2,1", false)
		after, _, ok := impl.DeskLine(d, line)
		if !ok {
			t.Fatalf("%q fails", line)
		}
		for i := range after.Ladder.Rungs {
			after.Ladder.Rungs[i] = -1
		}
		if textOf(d.Ladder) != "4:0,2,1" {
			t.Errorf("%q changes %v", line, d)
		}
	}
}

// TestScriptsKeepNothing runs scripts one after the other: each one begins with
// the first desk.
func TestScriptsKeepNothing(t *testing.T) {
	for range 3 {
		d, ok := impl.DeskAfter("turn\nrung 0 0\n")
		if !ok || !sameDesk(d, deskOf(t, "3:0,1,0", true)) {
			t.Fatal("desk", d, ok)
		}
		d.Ladder.Rungs[0] = -1
		checkScript(t, "show\nturned\n", []string{"3:0,1", "not"}, impl.FirstDesk(), nil)
	}
}
