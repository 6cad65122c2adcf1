package tests

import (
	"fmt"
	"regexp"
	"slices"
	"strconv"
	"strings"
	"testing"

	"loop.example/g01209/impl"
)

// This file tests promise 10.

// spoken is a line that is understood, with the words behind its first one.
type spoken struct {
	desk  impl.Desk
	words []string
}

func (s spoken) number(at int) int {
	n, _ := strconv.Atoi(s.words[at])
	return n
}

// list reads a word with commas between digits, or - for none.
func (s spoken) list(at int) []int {
	var list []int
	for _, digit := range strings.ReplaceAll(strings.Trim(s.words[at], "-"), ",", "") {
		list = append(list, int(digit-'0'))
	}
	return list
}

// ladder reads a word that looks like the text of a ladder.
func (s spoken) ladder(at int) impl.Ladder {
	wires, rungs, _ := strings.Cut(s.words[at], ":")
	return impl.Ladder{Wires: int(wires[0] - '0'), Rungs: spoken{words: []string{rungs}}.list(0)}
}

// listed writes numbers with commas between them.
func listed(numbers []int) string {
	return strings.ReplaceAll(strings.Trim(fmt.Sprint(append([]int{}, numbers...)), "[]"), " ", ",")
}

// orNone writes - for an empty text.
func orNone(text string) string {
	if text == "" {
		return "-"
	}
	return text
}

func leveled(levels [][]int) string {
	texts := make([]string, len(levels))
	for i, level := range levels {
		texts[i] = orNone(listed(level))
	}
	return orNone(strings.Join(texts, "/"))
}

// With a number, an order, the text of a ladder and any text in a line.
const (
	aNumber = ` (0|[1-9][0-9]{0,5})`
	anOrder = ` ([0-7](?:,[0-7])*)`
	aLadder = ` ([2-8]:(?:-|[0-6](?:,[0-6])*))`
	aText   = ` ([^ ]*)`
)

// effect is a form of lines and the ladder behind them.
type effect struct {
	form string
	made func(s spoken) (impl.Ladder, bool)
}

func spokenEffects() []effect {
	return []effect{
		{`rung` + aNumber + aNumber, func(s spoken) (impl.Ladder, bool) {
			return impl.AddRung(s.desk.Ladder, s.number(0), s.number(1))
		}},
		{`ladder` + aLadder, func(s spoken) (impl.Ladder, bool) { return s.ladder(0), true }},
		{`take` + aNumber, func(s spoken) (impl.Ladder, bool) { return impl.TakeRung(s.desk.Ladder, s.number(0)) }},
		{`turn`, func(s spoken) (impl.Ladder, bool) { return impl.TurnLadder(s.desk.Ladder) }},
		{`mirror`, func(s spoken) (impl.Ladder, bool) { return impl.MirrorLadder(s.desk.Ladder) }},
		{`do` + aText, func(s spoken) (impl.Ladder, bool) { return impl.MakeMove(s.desk.Ladder, s.words[0]) }},
		{`reduce`, func(s spoken) (impl.Ladder, bool) { return impl.ReduceLadder(s.desk.Ladder) }},
	}
}

// question is a form of lines and the reply to them.
type question struct {
	form string
	told func(s spoken) (string, bool)
}

func spokenQuestions() []question {
	return []question{
		{`show`, func(s spoken) (string, bool) { return textOf(s.desk.Ladder), true }},
		{`turned`, func(s spoken) (string, bool) { return map[bool]string{true: "yes", false: "not"}[s.desk.Turned], true }},
		{`end` + aNumber, func(s spoken) (string, bool) {
			end, ok := impl.EndOf(s.desk.Ladder, s.number(0))
			return fmt.Sprint(end), ok
		}},
		{`result`, func(s spoken) (string, bool) { p, ok := impl.ResultOf(s.desk.Ladder); return listed(p), ok }},
		{`moves`, func(s spoken) (string, bool) {
			moves, ok := impl.MovesOn(s.desk.Ladder)
			return orNone(strings.Join(moves, ",")), ok
		}},
		{`count` + anOrder, func(s spoken) (string, bool) { n, ok := impl.CountLeast(s.list(0)); return fmt.Sprint(n), ok }},
		{`least` + anOrder, func(s spoken) (string, bool) { l, ok := impl.LeastLadder(s.list(0)); return textOf(l), ok }},
		{`chance` + aNumber + aNumber + aNumber + aNumber, func(s spoken) (string, bool) {
			r, ok := impl.ChanceOf(s.number(0), s.number(1), s.number(2), s.number(3))
			return fmt.Sprintf("%d/%d", r.Num, r.Den), ok
		}},
		{`takes`, func(s spoken) (string, bool) { line, ok := impl.TakeLine(s.desk.Ladder); return listed(line), ok }},
		{`levels`, func(s spoken) (string, bool) { levels, ok := impl.LevelsOf(s.desk.Ladder); return leveled(levels), ok }},
		{`route` + anOrder, func(s spoken) (string, bool) { route, ok := impl.BrickRoute(s.list(0)); return leveled(route), ok }},
	}
}

// formsRead keeps the forms that have been read.
var formsRead = map[string]*regexp.Regexp{}

// understood reads a line of a form.
func understood(d impl.Desk, line, form string) (spoken, bool) {
	if formsRead[form] == nil {
		formsRead[form] = regexp.MustCompile(`\A(?:` + form + `)\z`)
	}
	words := formsRead[form].FindStringSubmatch(line)
	if words == nil {
		return spoken{}, false
	}
	s := spoken{desk: d, words: words[1:]}
	switch {
	case strings.HasSuffix(form, aLadder):
		return s, impl.IsLadder(s.ladder(0))
	case strings.HasSuffix(form, anOrder):
		return s, impl.IsOrder(s.list(0))
	}
	return s, true
}

// answered returns the desk behind a line and its reply, as the table of the
// document has them.
func answered(d impl.Desk, line string) (impl.Desk, string) {
	for _, e := range spokenEffects() {
		if s, ok := understood(d, line, e.form); ok {
			l, ok := e.made(s)
			if !ok {
				return d, "no"
			}
			isPut, isTurn := strings.HasPrefix(line, "ladder"), line == "turn"
			return impl.Desk{Ladder: l, Turned: !isPut && d.Turned != isTurn}, textOf(l)
		}
	}
	for _, q := range spokenQuestions() {
		if s, ok := understood(d, line, q.form); ok {
			if reply, ok := q.told(s); ok {
				return d, reply
			}
			return d, "no"
		}
	}
	return d, "what"
}

func sameDesk(a, b impl.Desk) bool { return sameLadder(a.Ladder, b.Ladder) && a.Turned == b.Turned }

// deskOf returns a desk with the ladder of a text.
func deskOf(t *testing.T, text string, turned bool) impl.Desk {
	t.Helper()
	return impl.Desk{Ladder: readLadder(t, text), Turned: turned}
}

// checkLine compares a line with what the table of the document has, and
// returns the desk behind it.
func checkLine(t *testing.T, d impl.Desk, line string) impl.Desk {
	t.Helper()
	want, wanted := answered(d, line)
	after, reply, ok := impl.DeskLine(d, line)
	if !ok || reply != wanted || !sameDesk(after, want) {
		t.Fatalf("%q on %v: %q, %v, %v, not %q, %v", line, d, reply, after, ok, wanted, want)
	}
	return after
}

// replyTo returns the reply to a line.
func replyTo(t *testing.T, d impl.Desk, line string) string {
	t.Helper()
	_, reply, ok := impl.DeskLine(d, line)
	if !ok {
		t.Fatalf("%q on %v fails", line, d)
	}
	return reply
}

// numbersRefused are words that are no numbers of a line.
func numbersRefused() []string {
	return []string{
		"", "-", "-0", "-1", "+0", "+1", "00", "01", "000000", "0000001", "1.", ".1", "1.0", "1e0", "1E5", "0x1", "0b1", "1_0", "1,0", ",", "0,", "a", "١", "０",
		"\t1", "1\t", "1\r", "1\x00", "\xff", "1000000", "1000001", "9999999", "0999999", "00999999", "-999999", "2147483648", "4294967296", "4294967297",
		"9223372036854775807", "9223372036854775808", "18446744073709551616", "18446744073709551617", strings.Repeat("9", 2900), strings.Repeat("0", 2900), "inf", "NaN",
	}
}

// ordersRefused are words that are no orders.
func ordersRefused() []string {
	return []string{
		"", "-", ",", "0,", ",0", "0,,1", "1", "2", "0,0", "1,1", "1,2", "0,2", "0,1,1", "2,1,3", "00", "0,01", "00,1", "-0", "-0,1", "+0", "0,-1", "0,+1", "0;1", "0:1", "0/1", "01",
		"0, 1", "0\t,1", "0,1,", "0,1\r", "0,a", "a", "０", "0,1,2,3,4,5,6,7,8", "8,7,6,5,4,3,2,1,0", "1,2,3,4,5,6,7,8", "0,1,2,3,4,5,6,8", "0,9223372036854775808",
		"0,18446744073709551617", "0x0", "1,0x0", "[0]", "3:-", strings.Repeat("0,", 1400) + "0",
	}
}

// laddersRefused are words that are no texts of ladders.
func laddersRefused() []string {
	full := textOf(impl.Ladder{Wires: 3, Rungs: manyRungs(impl.MaxRungs)})
	return []string{
		"", ":", "-", "3", "3:", ":0", "3-", "3*0", "3*-", "3:0,", "3:,0", "3::0", "3:0:1", "03:0", "3:00", "3:-0", "3:-1", "3:+1", "+3:0", "3:2", "2:1", "8:7", "1:-", "0:-", "9:-", "9:0",
		"10:0", "3:-,0", "3:--", "3:0,-", "3:0;1", "3:0,1\r", "\t3:0", "3:0\x00", "0,1", full + ",0", "3:" + strings.Repeat("0,", 1400) + "0", "18446744073709551619:0",
	}
}

func TestExampleOfChapter10(t *testing.T) {
	lines := []string{"result", "rung 2 0", "do f0", "turn", "turned", "levels", "count 3,2,1,0", "chance 3 2 0 1", "route 2,1,0", "do d0", "fly"}
	want := []string{"2,0,1", "3:0,1,0", "3:1,0,1", "3:1,0,1", "yes", "1/0/1", "16", "1/4", "0/1/0", "no", "what"}
	script := strings.Join(lines, "\n") + "\n"
	if replies, ok := impl.RunScript(script); !ok || !slices.Equal(replies, want) {
		t.Error("replies", replies, ok)
	}
	if d, ok := impl.DeskAfter(script); !ok || !sameDesk(d, deskOf(t, "3:1,0,1", true)) {
		t.Error("desk", d, ok)
	}
	if failed, ok := impl.FailedLines(script); !ok || !sameInts(failed, []int{10, 11}) {
		t.Error("failed", failed, ok)
	}
	d := impl.FirstDesk()
	for i, line := range lines {
		after, reply, ok := impl.DeskLine(d, line)
		if !ok || reply != want[i] {
			t.Error("line", line, reply, ok)
		}
		d = after
	}
}

func TestLimitsOfChapter10(t *testing.T) {
	if impl.MaxScript != 3000 || impl.MaxLines != 50 {
		t.Error("limits", impl.MaxScript, impl.MaxLines)
	}
}

func TestFirstDesk(t *testing.T) {
	d := impl.FirstDesk()
	if textOf(d.Ladder) != "3:0,1" || d.Turned || !impl.IsDesk(d) {
		t.Error("first desk", d)
	}
	// What is done with one of them does not show in the next one.
	d.Ladder.Rungs[0] = 1
	if next := impl.FirstDesk(); textOf(next.Ladder) != "3:0,1" {
		t.Error("next first desk", next)
	}
}

// TestLinesWithEffects has what lines leave of desks that are turned or not.
func TestLinesWithEffects(t *testing.T) {
	for _, c := range []struct{ before, line, after string }{
		{"3:0,1", "ladder 8:-", "8:-"}, {"3:0,1", "ladder 2:0,0", "2:0,0"}, {"3:0,1", "ladder 3:0,1", "3:0,1"},
		{"3:0,1", "rung 0 1", "3:1,0,1"}, {"3:0,1", "rung 1 1", "3:0,1,1"}, {"3:0,1", "rung 2 0", "3:0,1,0"}, {"8:-", "rung 0 6", "8:6"},
		{"3:0,1", "take 0", "3:1"}, {"3:0,1", "take 1", "3:0"}, {"2:0", "take 0", "2:-"}, {"4:0,1,2", "take 1", "4:0,2"},
		{"3:0,1", "turn", "3:1,0"}, {"3:0", "turn", "3:0"}, {"5:-", "turn", "5:-"}, {"4:0,2,1", "turn", "4:1,2,0"},
		{"3:0,1", "mirror", "3:1,0"}, {"5:0,3,3", "mirror", "5:3,0,0"}, {"2:0", "mirror", "2:0"}, {"5:-", "mirror", "5:-"},
		{"4:0,2,0", "do s0", "4:2,0,0"}, {"4:0,2,0", "do s1", "4:0,0,2"}, {"4:2,0,0", "do d1", "4:2"}, {"3:0,1,0", "do f0", "3:1,0,1"},
		{"3:0,1", "reduce", "3:0,1"}, {"4:0,2,0", "reduce", "4:2"}, {"3:1,0,1", "reduce", "3:0,1,0"}, {"2:0,0", "reduce", "2:-"},
	} {
		for _, turned := range []bool{false, true} {
			want := deskOf(t, c.after, turned)
			switch {
			case strings.HasPrefix(c.line, "ladder"):
				want.Turned = false
			case c.line == "turn":
				want.Turned = !turned
			}
			after, reply, ok := impl.DeskLine(deskOf(t, c.before, turned), c.line)
			if !ok || reply != c.after || !sameDesk(after, want) {
				t.Error(c, turned, after, reply, ok)
			}
		}
	}
}

// TestLinesThatAsk has replies to lines that leave the desk as it is.
func TestLinesThatAsk(t *testing.T) {
	for _, c := range []struct{ desk, line, reply string }{
		{"3:0,1", "show", "3:0,1"}, {"8:-", "show", "8:-"},
		{"3:0,1", "end 0", "2"}, {"3:0,1", "end 1", "0"}, {"3:0,1", "end 2", "1"}, {"8:-", "end 7", "7"},
		{"3:0,1", "result", "2,0,1"}, {"2:-", "result", "0,1"}, {"2:0", "result", "1,0"}, {"8:6", "result", "0,1,2,3,4,5,7,6"},
		{"3:0,1", "moves", "-"}, {"8:-", "moves", "-"}, {"4:0,2,0", "moves", "s0,s1"}, {"4:2,0,0", "moves", "s0,d1"}, {"3:0,1,0", "moves", "f0"},
		{"4:0,0,1,0,2", "moves", "s3,f1,d0"},
		{"3:0,1", "count 0,1", "1"}, {"3:0,1", "count 2,1,0", "2"}, {"3:0,1", "count 3,2,1,0", "16"}, {"3:0,1", "count 5,4,3,2,1,0", "292864"},
		{"3:0,1", "least 0,1", "2:-"}, {"3:0,1", "least 2,0,1", "3:0,1"}, {"3:0,1", "least 2,1,0", "3:0,1,0"}, {"3:0,1", "least 0,1,2,3,4,5,7,6", "8:6"},
		{"3:0,1", "least 7,6,5,4,3,2,1,0", textOf(must[impl.Ladder](t)(impl.LongestLadder(8)))},
		{"3:0,1", "chance 3 2 0 0", "1/2"}, {"3:0,1", "chance 3 2 0 1", "1/4"}, {"3:0,1", "chance 2 1 0 0", "0/1"}, {"3:0,1", "chance 2 1 0 1", "1/1"},
		{"3:0,1", "chance 6 0 5 5", "1/1"}, {"3:0,1", "chance 2 20 1 1", "1/1"},
		{"3:0,1", "takes", "0,1"}, {"3:0,0,0", "takes", "0"}, {"3:0,1,0", "takes", "1"},
		{"3:0,1", "levels", "0/1"}, {"4:0,2,1", "levels", "0,2/1"}, {"8:-", "levels", "-"}, {"8:6,4,2,0", "levels", "0,2,4,6"}, {"2:0,0", "levels", "0/0"},
		{"3:0,1", "route 2,1,0", "0/1/0"}, {"3:0,1", "route 2,0,1", "0/1/-"}, {"3:0,1", "route 0,2,1", "-/1/-"}, {"3:0,1", "route 0,1", "-/-"},
		{"3:0,1", "route 1,0", "0/-"}, {"3:0,1", "route 1,0,3,2", "0,2/-/-/-"}, {"3:0,1", "route 0,1,2,3,4,5,6,7", "-/-/-/-/-/-/-/-"},
	} {
		for _, turned := range []bool{false, true} {
			d := deskOf(t, c.desk, turned)
			after, reply, ok := impl.DeskLine(d, c.line)
			if !ok || reply != c.reply || !sameDesk(after, d) {
				t.Error(c, turned, after, reply, ok)
			}
		}
	}
	if reply := replyTo(t, deskOf(t, "3:0,1", false), "turned"); reply != "not" {
		t.Error("not turned", reply)
	}
	if reply := replyTo(t, deskOf(t, "3:0,1", true), "turned"); reply != "yes" {
		t.Error("turned", reply)
	}
}

// TestLinesThatAreRefused takes lines of which a function fails, and lines that
// there are none of.
func TestLinesThatAreRefused(t *testing.T) {
	full := textOf(impl.Ladder{Wires: 3, Rungs: manyRungs(impl.MaxRungs)})
	long := textOf(impl.Ladder{Wires: 3, Rungs: append(manyRungs(12), 0)})
	check := func(want, desk string, lines ...string) {
		for _, line := range lines {
			for _, turned := range []bool{false, true} {
				d := deskOf(t, desk, turned)
				after, reply, ok := impl.DeskLine(d, line)
				if !ok || reply != want || !sameDesk(after, d) {
					t.Errorf("%q on %v: %q, %v, %v", line, d, reply, after, ok)
				}
			}
		}
	}
	check("no", "3:0,1", "rung 3 0", "rung 0 2", "rung 999999 0", "rung 0 999999", "take 2", "take 999999", "end 3", "end 999999")
	check("no", "3:0,1", "do ", "do s0", "do f0", "do d0", "do f", "do 0", "do F0", "do f00", "do f-0", "do f0,d0", "do do", "do \t", "do \r", "do \x00", "do \xff\xfe", "do -", "do "+strings.Repeat("f", 2997))
	check("no", "3:0,1,0", "do f00", "do f1", "do f+0", "do f0\r", "do f0\x00", "do F0", "do 0", "do f", "do ")
	check("no", "3:0,1", "count 0", "least 0", "route 0", "count 6,5,4,3,2,1,0", "count 0,1,2,3,4,5,6", "count 7,6,5,4,3,2,1,0")
	check("no", "3:0,1", "chance 0 0 0 0", "chance 1 0 0 0", "chance 7 0 0 0", "chance 3 21 0 0", "chance 3 2 3 0", "chance 3 2 0 3", "chance 999999 999999 999999 999999")
	check("no", "2:-", "take 0", "takes", "end 2", "rung 1 0", "rung 0 1", "do s0")
	check("no", full, "rung 0 0", "rung 60 0", "rung 61 0", "take 60", "takes", "end 3")
	check("no", "2:0,0", "takes")
	check("no", long, "takes")
	check("what", "3:0,1",
		"", " ", "  ", "\t", "\r", "\x00", "\xff", "what", "no", "fly", "-", "0", "3:0,1", "Show", "SHOW", "shows", "sho", "show\r", "show\t", "show ", " show", "show 0", "show show", "show  ",
		"turned ", "turned 0", " turned", "turn ", "turn 0", "turn turn", "mirror ", "mirror 0", "reduce ", "reduce 0", "result ", "result 0", "moves ", "moves 0", "takes ", "takes 0", "levels ", "levels 0",
		"ladder", "ladder ", "ladder  ", "ladder 3:0 ", "ladder  3:0", " ladder 3:0", "ladder 3:0 3:0", "ladder 3:0, 1", "ladder\t3:0", "ladder3:0",
		"rung", "rung ", "rung 0", "rung 0 ", "rung  0", "rung  ", "rung 0  0", "rung  0 0", "rung 0 0 ", "rung 0 0 0", "rung,0,0", "rung\t0 0", "rung 0\t0", "rung 0,0",
		"take", "take ", "take  ", "take 0 ", "take  0", "take 0 0", "take\t0", "end", "end ", "end 0 ", "end  0", "end 0 0", "do", "do f0 ", "do  f0", "do f0 d0", "do  ", "do\tf0",
		"count", "count ", "count 0,1 ", "count  0,1", "count 0 1", "count 0, 1", "least", "least ", "least 0,1 ", "least 0 1", "route", "route ", "route 0,1 ", "route 0 1",
		"chance", "chance ", "chance 3 2 0", "chance 3 2 0 ", "chance 3 2  1", "chance  3 2 0 1", "chance 3 2 0 1 ", "chance 3 2 0 1 0", "chance 3,2,0,1",
		strings.Repeat(" ", 3000), strings.Repeat("show ", 600), "show"+strings.Repeat(" ", 2996))
	for _, name := range []string{"ladder", "rung", "take", "turn", "mirror", "do", "reduce", "show", "turned", "end", "result", "moves", "count", "least", "chance", "takes", "levels", "route"} {
		check("what", "3:0,1", strings.ToUpper(name), name+"\x00", name+"\r", name+"s 0", " "+name, name+" 0 0 0 0 0", name+"     ", name+" - -", name+"/0", name+"0", name[1:])
	}
}

// TestWordsOfOtherForms puts words of other forms in each place of a number,
// an order or a ladder.
func TestWordsOfOtherForms(t *testing.T) {
	d := deskOf(t, "3:0,1", true)
	refuse := func(words []string, lines ...string) {
		for _, line := range lines {
			if reply := replyTo(t, d, strings.ReplaceAll(line, "?", "0")); strings.Contains(line, "?") && reply == "what" {
				t.Errorf("%q with 0: %q", line, reply)
			}
			for _, word := range words {
				tried := strings.ReplaceAll(line, "?", word)
				if after, reply, ok := impl.DeskLine(d, tried); !ok || reply != "what" || !sameDesk(after, d) {
					t.Errorf("%q: %q, %v, %v", tried, reply, after, ok)
				}
			}
		}
	}
	refuse(numbersRefused(), "rung ? 0", "rung 0 ?", "rung ? 999999", "rung 999999 ?", "take ?", "end ?", "chance ? 2 0 1", "chance 3 ? 0 1", "chance 3 2 ? 1", "chance 3 2 0 ?", "chance 999999 ? 0 0")
	refuse(ordersRefused(), "count ?", "least ?", "route ?")
	for _, word := range laddersRefused() {
		checkLine(t, d, "ladder "+word)
		if reply := replyTo(t, d, "ladder "+word); reply != "what" {
			t.Errorf("ladder %q: %q", word, reply)
		}
	}
	full := textOf(impl.Ladder{Wires: 8, Rungs: manyRungs(impl.MaxRungs)})
	if reply := replyTo(t, d, "ladder "+full); reply != full {
		t.Error("as many rungs as there may be", reply)
	}
}

// TestAllOrdersAreRead asks for each order.
func TestAllOrdersAreRead(t *testing.T) {
	d := impl.FirstDesk()
	for n := 1; n <= 5; n++ {
		eachOrder(n, func(p []int) {
			for _, name := range []string{"count ", "least ", "route "} {
				checkLine(t, d, name+listed(p))
			}
		})
	}
	mixed := mixer(31)
	for n := 6; n <= impl.MaxWires; n++ {
		for range 50 {
			p := listed(mixed.order(n))
			for _, name := range []string{"count ", "least ", "route "} {
				checkLine(t, d, name+p)
			}
		}
	}
}

// TestAllChancesAreTold asks for all chances of few rungs.
func TestAllChancesAreTold(t *testing.T) {
	d := impl.FirstDesk()
	for n := range 8 {
		for k := 0; k <= 22; k += 1 + k/3 {
			for start := range 7 {
				for end := range 7 {
					checkLine(t, d, fmt.Sprint("chance ", n, " ", k, " ", start, " ", end))
				}
			}
		}
	}
}

// TestLinesOnAllLadders asks all kinds of lines on ladders of all kinds.
func TestLinesOnAllLadders(t *testing.T) {
	check := func(l impl.Ladder) {
		d := impl.Desk{Ladder: l, Turned: len(l.Rungs)%2 == 1}
		for _, line := range []string{"turn", "mirror", "reduce", "show", "turned", "result", "moves", "levels", "ladder " + textOf(l), "do d0", "do s1", "do f0"} {
			checkLine(t, d, line)
		}
		for _, n := range []int{0, 1, 2, 7, 8, 58, 59, 60, 61} {
			number := strconv.Itoa(n)
			for _, line := range []string{"end ", "take ", "rung 0 ", "rung 60 ", "do s", "do f", "do d"} {
				checkLine(t, d, line+number)
			}
			checkLine(t, d, "rung "+number+" 0")
		}
		if len(l.Rungs) <= 7 || len(l.Rungs) > 11 {
			checkLine(t, d, "takes")
		}
	}
	eachLadder(2, 4, check)
	eachLadder(3, 4, check)
	eachLadder(4, 3, check)
	mixed := mixer(32)
	for n := 2; n <= impl.MaxWires; n++ {
		for _, k := range []int{0, 1, 5, 12, 30, 59, 60} {
			l := impl.Ladder{Wires: n}
			for range k {
				l.Rungs = append(l.Rungs, mixed.below(n-1))
			}
			check(l)
		}
	}
}

// TestAllShortLines tries all lines of at most three words, which may be empty,
// and of the words behind a known one.
func TestAllShortLines(t *testing.T) {
	names := []string{"ladder", "rung", "take", "turn", "mirror", "do", "reduce", "show", "turned", "end", "result", "moves", "count", "least", "chance", "takes", "levels", "route", "", "fly", "0"}
	others := []string{"", "0", "1", "2", "01", "-", "1,0", "0,0", "0,2,1", "2:-", "3:0,1,0", "3:2", "s0", "f0", "d1", "turn"}
	desks := []impl.Desk{deskOf(t, "3:0,1", false), deskOf(t, "4:0,2,1,2,2", true)}
	for _, d := range desks {
		for _, name := range names {
			checkLine(t, d, name)
			for _, one := range others {
				checkLine(t, d, name+" "+one)
				for _, two := range others {
					checkLine(t, d, name+" "+one+" "+two)
				}
			}
		}
	}
}

// mixedLine returns a line that is often understood and often done.
func mixedLine(m *mixer) string {
	small := func(n int) string {
		if m.below(12) == 0 {
			return numbersRefused()[m.below(40)]
		}
		return strconv.Itoa(m.below(n))
	}
	switch m.below(12) {
	case 0:
		l := impl.Ladder{Wires: 2 + m.below(4)}
		for range m.below(9) {
			l.Rungs = append(l.Rungs, m.below(l.Wires-1))
		}
		return "ladder " + textOf(l)
	case 1, 2, 3:
		return "rung " + small(5) + " " + small(4)
	case 4:
		return "take " + small(5)
	case 5, 6:
		return "do " + string("sfd"[m.below(3)]) + small(5)
	case 7:
		return []string{"count ", "least ", "route "}[m.below(3)] + listed(m.order(1+m.below(5)))
	case 8:
		return "chance " + small(7) + " " + small(9) + " " + small(4) + " " + small(4)
	case 9:
		return "end " + small(5)
	}
	return []string{"turn", "turn", "mirror", "reduce", "show", "turned", "result", "moves", "takes", "levels", "", "fly"}[m.below(12)]
}

// TestScriptsAreTheirLines runs scripts and compares them line by line.
func TestScriptsAreTheirLines(t *testing.T) {
	mixed := mixer(33)
	seen := map[string]int{}
	for range 400 {
		d := impl.FirstDesk()
		var script strings.Builder
		var wanted []string
		var failed []int
		for number := range mixed.below(impl.MaxLines + 1) {
			line := mixedLine(&mixed)
			if script.Len()+len(line)+1 > impl.MaxScript {
				break
			}
			script.WriteString(line + "\n")
			_, reply := answered(d, line)
			d = checkLine(t, d, line)
			wanted = append(wanted, reply)
			if reply == "no" || reply == "what" {
				failed = append(failed, number+1)
				seen[reply]++
			}
		}
		checkScript(t, script.String(), wanted, d, failed)
	}
	if seen["no"] == 0 || seen["what"] == 0 {
		t.Error("nothing is refused", seen)
	}
}

// checkScript checks all that is told of a script.
func checkScript(t *testing.T, script string, wanted []string, d impl.Desk, failed []int) {
	t.Helper()
	if replies, ok := impl.RunScript(script); !ok || !slices.Equal(replies, wanted) {
		t.Fatalf("%q: replies %q, %v", script, replies, ok)
	}
	if after, ok := impl.DeskAfter(script); !ok || !sameDesk(after, d) {
		t.Fatalf("%q: desk %v, %v", script, after, ok)
	}
	if got, ok := impl.FailedLines(script); !ok || !sameInts(got, failed) {
		t.Fatalf("%q: failed %v, %v", script, got, ok)
	}
}

func TestSingleScripts(t *testing.T) {
	first := impl.FirstDesk()
	checkScript(t, "", nil, first, nil)
	checkScript(t, "\n", []string{"what"}, first, []int{1})
	checkScript(t, "\n\n\n", []string{"what", "what", "what"}, first, []int{1, 2, 3})
	checkScript(t, "show\n", []string{"3:0,1"}, first, nil)
	checkScript(t, "show\r\nshow\n", []string{"what", "3:0,1"}, first, []int{1})
	checkScript(t, "\xff\x00\nend 0\n", []string{"what", "2"}, first, []int{1})
	checkScript(t, "ladder 4:0,2,0\nmoves\ndo s0\ndo d1\ntake 0\nlevels\n",
		[]string{"4:0,2,0", "s0,s1", "4:2,0,0", "4:2", "4:-", "-"}, deskOf(t, "4:-", false), nil)
	// One is turned an odd number of times, by turns alone that are not refused, and since the ladder was put there.
	checkScript(t, "turned\nturn\nturned\nmirror\nrung 0 0\ntake 0\nreduce\nturned\nturn \nturned\nturn\nturned\nturn\nladder 2:0\nturned\nturn\nladder 9:-\nturned\n",
		[]string{"not", "3:1,0", "yes", "3:0,1", "3:0,0,1", "3:0,1", "3:0,1", "yes", "what", "yes", "3:1,0", "not", "3:0,1", "2:0", "not", "2:0", "what", "yes"},
		deskOf(t, "2:0", true), []int{9, 17})
	// What is refused changes nothing.
	checkScript(t, "rung 9 0\ntake 2\ndo f0\nladder 3:2\nend 3\ntake 1\nshow\ntake 1\nresult\n",
		[]string{"no", "no", "no", "what", "no", "3:0", "3:0", "no", "1,0,2"}, deskOf(t, "3:0", false), []int{1, 2, 3, 4, 5, 8})
}

// TestGreatestScripts takes scripts of just as many lines and bytes as there
// may be, and longer ones.
func TestGreatestScripts(t *testing.T) {
	first := impl.FirstDesk()
	everyLine := make([]int, impl.MaxLines)
	for i := range everyLine {
		everyLine[i] = i + 1
	}
	checkScript(t, strings.Repeat("\n", 50), slices.Repeat([]string{"what"}, 50), first, everyLine)
	checkScript(t, strings.Repeat("turn\n", 49), slices.Concat(slices.Repeat([]string{"3:1,0", "3:0,1"}, 24), []string{"3:1,0"}), deskOf(t, "3:1,0", true), nil)
	checkScript(t, strings.Repeat("turn\n", 50), slices.Repeat([]string{"3:1,0", "3:0,1"}, 25), first, nil)
	checkScript(t, "do "+strings.Repeat("x", 2996)+"\n", []string{"no"}, first, []int{1})
	checkScript(t, strings.Repeat(" ", 2999)+"\n", []string{"what"}, first, []int{1})
	full := textOf(impl.Ladder{Wires: 8, Rungs: manyRungs(impl.MaxRungs)})
	// 50 lines of 60 bytes.
	checkScript(t, strings.Repeat("do "+strings.Repeat("x", 56)+"\n", 50), slices.Repeat([]string{"no"}, 50), first, everyLine)
	checkScript(t, strings.Repeat("ladder "+full+"\n", 23), slices.Repeat([]string{full}, 23), deskOf(t, full, false), nil)
	for _, text := range []string{
		strings.Repeat("\n", 51), strings.Repeat("turn\n", 51), strings.Repeat(" ", 3000) + "\n", "do " + strings.Repeat("x", 2997) + "\n",
		strings.Repeat("do "+strings.Repeat("x", 56)+"\n", 49) + "do " + strings.Repeat("x", 57) + "\n",
		strings.Repeat("\n", 50) + "show", strings.Repeat("\n", 3000), strings.Repeat("\n", 3001), strings.Repeat("x", 100000) + "\n",
		"show", " ", "x", "show\nshow", "\nshow", "show\n ", "show\n\r", "\r", "show\r", "\x00", strings.Repeat("x", 3000), "show\n" + strings.Repeat("x", 2995),
	} {
		fails(t, "RunScript", impl.RunScript, text)
		fails(t, "DeskAfter", impl.DeskAfter, text)
		fails(t, "FailedLines", impl.FailedLines, text)
	}
}

// TestGreatestLines takes lines of just as many bytes as there may be.
func TestGreatestLines(t *testing.T) {
	d := impl.FirstDesk()
	for _, line := range []string{strings.Repeat(" ", 3000), "do " + strings.Repeat("x", 2997), strings.Repeat("\xff", 3000), "end " + strings.Repeat("0", 2996), "count " + strings.Repeat("0", 2994)} {
		checkLine(t, d, line)
		fails(t, "DeskLine", impl.DeskLine, d, line+line[2999:])
	}
	for _, line := range []string{"\n", "show\n", "\nshow", "show\nshow", "do \n", "do x\nx", strings.Repeat("\n", 3000)} {
		fails(t, "DeskLine", impl.DeskLine, d, line)
	}
}

// TestGreatestGames asks for the lines of the longest taking games there are,
// as often as a script can.
func TestGreatestGames(t *testing.T) {
	for _, text := range []string{"8:0,1,2,3,4,5,6,0,1,2,3,4", "7:0,1,2,3,4,5,0,1,2,3,4,5", "2:0,0,0,0,0,0,0,0,0,0,0"} {
		d := deskOf(t, text, false)
		checkLine(t, d, "takes")
		line := replyTo(t, d, "takes")
		checkScript(t, "ladder "+text+"\n"+strings.Repeat("takes\n", 49), append([]string{text}, slices.Repeat([]string{line}, 49)...), d, nil)
	}
}
