package tests

import (
	"fmt"
	"math"
	"math/rand"
	"slices"
	"strings"
	"testing"

	"loop.example/parallelmoves/impl"
)

// linesAlone are the lines of the table that have no rest.
var linesAlone = strings.Fields("moves effect busy sort undo steps order fewest swap near direct right isdirect spare still rings closed wheels leaves places lost registers touched traffic counts searched settles again")

// someMoveTexts are rests of moves and then.
var someMoveTexts = []string{"-", "b=a,a=b,c=a", "a=b,b=a", "A=B,B=A,c=1", "a=b,b=c,c=a,d=e,e=d", "f=f,e=2", "c=b,b=a", "a=b,b=a,c=d,d=c", "d=A,e=A,f=7,B=C,C=B,A=0"}

// someWanted are rests of all lines with wanted places.
var someWanted = []string{"", "a", "ab", "bc", "c", "aeAC", "BC", "abcdefABC"}

// someRests are rests that are what the table shows, by the words of lines. Some are refused with some moves or steps.
var someRests = map[string][]string{
	"moves":  someMoveTexts,
	"then":   someMoveTexts,
	"call":   {"ab ba", "cab b1A", "f 9", "dcba abcd", "e e", "bd db"},
	"power":  {"0", "1", "2", "3", "6", "59", "60"},
	"keep":   someWanted,
	"steps":  {"-", "t=a;a=b;b=t", "a~b", "A=B;u=t;c=7", "a=t", "a=b;b=1;c=a", "t=A;u=B;A=u;B=t", "A~B;c=c", "t=a;c~t;e~e"},
	"wanted": someWanted,
	"drop":   someWanted,
	"free":   {"", "e", "ef", "fd", "a", "cb"},
	"for":    someWanted,
	"needed": someWanted,
	"state":  {"123456789xy", "00000000000", "abcdefABCtu", "ZzYyXx9876a"},
	"run":    {"123456789xy", "00000000000", "abcdefABCtu", "ZzYyXx9876a"},
	"back":   strings.Split(placeLetters, ""),
	"args":   {"a", "ba", "abc", "fedc", "cab", "decb"},
	"cost":   {"0", "1", "2", "3", "99", "100"},
	"best":   {"1", "4", "2 ba b1", "2 aa ba", "2 12 AB ab", "3 abc bca", "4 badc", "1 a b c d e", "2 ba ba ba ba ba"},
}

// notWantedRests are rests that are no wanted places.
var notWantedRests = []string{"ba", "aa", "t", "au", "x", "1", "a1", " ", "ab ", " ab", "a b", "a,b", "-", "AB a", "abcdefABCt", "aA\r"}

// notStateRests are rests that are no states.
var notStateRests = []string{"", "1", "-", "123456789x", "123456789xyz", "123456789xy ", " 23456789xy", "1234567-9xy", "12345 789xy", "123456789x\t", "123456789x\xff"}

// notMoveRests are rests that are no moves.
var notMoveRests = []string{"", "x", "--", "- ", " -", "a", "a=", "=a", "a=t", "t=a", "a~b", "a==b", "a=b,a=c", "a=b,", ",a=b", "a=b ", " a=b", "a=b, b=a", "a=b b=a", "a=b;b=a", "a=b\r", "A=10"}

// notNumberRests are rests that are no numbers.
var notNumberRests = []string{"", " ", "x", "-", "+", "+2", "-0", "02", "00", "2 ", " 2", "2 2", "2.", "2.0", "2e0", "1_0", "0x2", "2a", "a2", "2,", "2\r", "\t2", "\u0662", "\u00b2", "\xff2"}

// longNumbers have seventeen digits or more. Some are small in 64 or in 32 bits.
var longNumbers = []string{
	"10000000000000000", "99999999999999999", "00000000000000002", "-9999999999999999",
	"100000000000000000", "000000000000000002", "9223372036854775807", "9223372036854775809", "18446744073709551618",
	"-18446744073709551614", strings.Repeat("0", 40) + "2", "4294967298", strings.Repeat("9", 200),
}

// refusedRests are rests with which a line is refused, whatever moves and steps there are.
var refusedRests = map[string][]string{
	"moves":  notMoveRests,
	"then":   notMoveRests,
	"call":   {"", " ", "ab", "ab ", " ab", "ab b", "ab bac", "ab  ba", " ab ba", "ab ba ", "ab ba ba", "ab\tba", "A b", "t b", "aa bc", "abcde abcde", "ab b-", "ab bt", "ab BD", "-", "- -", "1 1"},
	"power":  slices.Concat(notNumberRests, longNumbers, []string{"61", "62", "100", "-1", "-60"}),
	"keep":   notWantedRests,
	"steps":  {"", "x", "--", "- ", " -", "a=", "=a", "a", "a=v", "a~1", "1=a", "a-b", "a=b;", ";a=b", "a=b ", " a=b", "a=b; b=a", "a=b,b=a", "a=b b=a", "a=b\r", "a==b", "a=10", stepTimes(61)},
	"wanted": notWantedRests,
	"drop":   notWantedRests,
	"free":   {"A", "C", "t", "u", "x", "1", "-", " ", "aa", "ff", "abc", "abcdef", "eA", "et", "ef ", " ef", "e f", "e,f", "ef\r"},
	"for":    notWantedRests,
	"needed": notWantedRests,
	"state":  notStateRests,
	"run":    notStateRests,
	"back":   {"", "t", "u", "x", "1", "-", " ", "ab", "aa", "a ", " a", "a b", "D", "a\r", "\xff"},
	"args":   {"", "A", "t", "x", "1", "-", " ", "aa", "abcde", "abcdef", "ab ", " ab", "a b", "ab\r", "aB"},
	"cost":   slices.Concat(notNumberRests, longNumbers, []string{"101", "102", "1000", "-1", "-100"}),
	"best": slices.Concat(notNumberRests, longNumbers, []string{
		"0", "5", "6", "-1", "-2 ab", "0 a", "2 b", "2 ba b", "2 bac", "2 ba  b1", "2  ba", "2 ba ", "2 ", " 2 ba", "2 ba,b1", "2 bt", "2 b-", "2\tba",
		"1 a b c d e f", "2 ab ab ab ab ab ab", "ba 2", "2ba", "02 ba", "+2 ba", "2 2", "5 abcde", "10000000000000002 ba", "18446744073709551618 ba", "000000000000000002 ba",
	}),
}

// stepTimes returns the text of as many steps.
func stepTimes(n int) string { return strings.Repeat("a=b;", n-1) + "a=b" }

// unknownLines are lines that the table does not have.
var unknownLines = []string{
	"foo", "foo bar", "x", "-", "1", "what", "no", "long", "full", "ab", "a=b", "best2", "cost3", "power2", "backa", "MOVES", "Moves", "Steps a=b", "move", "movess", "moves,", "moves;order",
	" ", "  ", " moves", " moves a=b", "\tmoves", "moves\t", "moves\r", "order\r", "moves\ta=b", "moves\x00", "\x00", "\xff", "\u00e9", "\ufeffmoves", "moves\u00a0a=b", "moves\va=b", "\r", "\r\r",
	"PlacesIn", "FormatMoves", "is direct", "ways", "swaps", "wheel", "ring", "count", "search", "slots", "lone", "alone", "greedy",
}

// noRests stand behind a word of a line that has none, so that it is another line.
var noRests = []string{"", " ", "x", "1", "-", "a", "ab", "a=b", "123456789xy", "\t", "1 ab"}

// deskModel has what the interpreter has, and calls the functions of the chapters ahead.
type deskModel struct {
	list []impl.Move
	seq  []impl.Step
}

func orNone(text string) string {
	if text == "" {
		return "-"
	}
	return text
}

func textOr(text string, ok bool) string {
	if !ok {
		return "no"
	}
	return orNone(text)
}

func textsOr(texts []string, ok bool) string { return textOr(strings.Join(texts, " "), ok) }

func (d *deskModel) takeMoves(list []impl.Move, ok bool) string {
	if !ok {
		return "no"
	}
	d.list = list
	return impl.FormatMoves(list)
}

func (d *deskModel) takeSteps(seq []impl.Step, ok bool) string {
	if !ok {
		return "no"
	}
	d.seq = seq
	return impl.FormatSequence(seq)
}

// lineAlone returns the output of a line without a rest.
func (d *deskModel) lineAlone(word string) string {
	switch word {
	case "moves":
		return impl.FormatMoves(d.list)
	case "effect":
		return d.takeMoves(impl.EffectOf(d.seq))
	case "busy":
		return d.takeMoves(impl.DropIdle(d.list))
	case "sort":
		return d.takeMoves(impl.SortMoves(d.list))
	case "undo":
		return d.takeMoves(impl.UndoMoves(d.list))
	case "steps":
		return impl.FormatSequence(d.seq)
	case "order":
		return d.takeSteps(impl.OrderMoves(d.list))
	case "fewest":
		return d.takeSteps(impl.FirstFewest(d.list))
	case "swap":
		return d.takeSteps(impl.OrderWithSwaps(d.list))
	case "near":
		return d.takeSteps(impl.NeighbourSwaps(d.list))
	case "direct":
		return d.takeSteps(impl.OrderDirect(d.list))
	}
	return d.tell(word)
}

// tell returns the output of a line without a rest that changes nothing.
func (d *deskModel) tell(word string) string {
	switch word {
	case "right":
		return fmt.Sprint(impl.IsRight(d.seq, d.list))
	case "isdirect":
		return fmt.Sprint(impl.IsDirect(d.seq))
	case "spare":
		return fmt.Sprint(impl.NeedsSpare(d.list))
	case "still":
		return fmt.Sprint(impl.IsStill(d.list))
	case "rings":
		return textsOr(impl.RingsOf(d.list))
	case "closed":
		return textsOr(impl.ClosedRings(d.list))
	case "wheels":
		return textsOr(impl.WheelsOf(d.list))
	case "leaves":
		return textOr(impl.LeavesOf(d.list))
	case "places":
		return textOr(impl.PlacesIn(d.list))
	case "lost":
		return textOr(impl.LostBy(d.list))
	case "registers":
		return textOr(impl.FreeRegisters(d.list))
	case "touched":
		return textOr(impl.TouchedBy(d.seq))
	case "traffic":
		reads, writes, _ := impl.SlotTraffic(d.seq)
		return fmt.Sprint(reads, writes)
	case "counts":
		return fmt.Sprint(impl.CountBusy(d.list), impl.CountInOrder(d.list), impl.CountWithSwaps(d.list), impl.CountDirect(d.list))
	case "searched":
		fewest := impl.FewestSteps(d.list)
		return textOr(fmt.Sprint(fewest, impl.FewestAlone(d.list), impl.CountFewest(d.list)), fewest >= 0)
	case "settles":
		return fmt.Sprint(impl.SettlesAfter(d.list))
	case "again":
		order := impl.OrderOf(d.list)
		return textOr(fmt.Sprint(order, impl.SignOf(d.list)), order >= 0)
	}
	return "what"
}

// numberIn returns a number as the document writes it, and -1, which no line takes, if a text is none.
func numberIn(text string) int {
	for n := range 1000 {
		if fmt.Sprint(n) == text {
			return n
		}
	}
	return -1
}

// lineWithRest returns the output of a line with a rest.
func (d *deskModel) lineWithRest(word string, rest string) string {
	switch word {
	case "moves":
		return d.takeMoves(impl.ParseMoves(rest))
	case "then":
		second, ok := impl.ParseMoves(rest)
		if !ok {
			return "no"
		}
		return d.takeMoves(impl.ComposeMoves(d.list, second))
	case "call":
		parts := strings.Split(rest, " ")
		if len(parts) != 2 {
			return "no"
		}
		return d.takeMoves(impl.MovesFor(parts[0], parts[1]))
	case "power":
		return d.takeMoves(impl.PowerOf(d.list, numberIn(rest)))
	case "keep":
		return d.takeMoves(impl.KeepWanted(d.list, rest))
	case "steps":
		return d.takeSteps(impl.ParseSequence(rest))
	case "wanted":
		return d.takeSteps(impl.OrderWanted(d.list, rest))
	case "drop":
		return d.takeSteps(impl.DropSteps(d.seq, rest))
	case "free":
		return d.takeSteps(impl.WithFree(d.seq, rest))
	}
	return d.tellWith(word, rest)
}

// tellWith returns the output of a line with a rest that changes nothing.
func (d *deskModel) tellWith(word string, rest string) string {
	switch word {
	case "for":
		return textOr(fmt.Sprint(impl.IsRightFor(d.seq, d.list, rest)), impl.WantedValid(rest))
	case "needed":
		return textOr(impl.NeededAhead(d.seq, rest))
	case "state":
		return textOr(impl.AtOnce(d.list, rest))
	case "run":
		return textOr(impl.InOrder(d.seq, rest))
	case "back":
		return textOr(impl.WayBack(d.list, rest))
	case "args":
		return textOr(impl.ArgsOf(rest, d.list))
	case "cost":
		cost := impl.SwapCost(d.seq, numberIn(rest))
		return textOr(fmt.Sprint(cost, impl.BestCost(d.list, numberIn(rest))), cost >= 0)
	case "best":
		parts := strings.Split(rest, " ")
		params, ok := impl.BestParams(numberIn(parts[0]), parts[1:])
		return textOr(fmt.Sprint(params, " ", impl.LeastCost(numberIn(parts[0]), parts[1:])), ok)
	}
	return "what"
}

func (d *deskModel) line(text string) string {
	if word, rest, more := strings.Cut(text, " "); more {
		return d.lineWithRest(word, rest)
	}
	return d.lineAlone(text)
}

// outputOf returns what the document says that a script produces.
func outputOf(script string) string {
	if len(script) > 20000 {
		return "long\n"
	}
	d, output := &deskModel{}, ""
	for ahead, line := range strings.Split(script, "\n") {
		if line == "" {
			continue
		}
		if ahead >= 100 || len(output) > 40000 {
			return output + "full\n"
		}
		output += d.line(line) + "\n"
	}
	return output
}

func checkScript(t *testing.T, script string) {
	t.Helper()
	if got, want := impl.RunScript(script), outputOf(script); got != want {
		t.Errorf("RunScript(%q) = %q, not %q", script, got, want)
	}
}

// checkLines compares a script, with | behind its lines, with outputs that are known.
func checkLines(t *testing.T, lines string, outputs string) {
	t.Helper()
	script, want := strings.ReplaceAll(lines, "|", "\n"), strings.ReplaceAll(outputs, "|", "\n")+"\n"
	if got := impl.RunScript(script); got != want {
		t.Errorf("RunScript(%q) = %q, not %q", script, got, want)
	}
	checkScript(t, script)
}

// someLines returns lines of the table, each word with all of someRests.
func someLines() []string {
	lines := slices.Clone(linesAlone)
	for word, rests := range someRests {
		for _, rest := range rests {
			lines = append(lines, word+" "+rest)
		}
	}
	slices.Sort(lines)
	return lines
}

// someDesks are lines ahead of others, with moves and steps of many kinds.
func someDesks() []string {
	desks := []string{"", "steps a=t\n", "steps A~B;u=t\nmoves a=b,b=a\n"}
	for _, text := range someMoveTexts {
		desks = append(desks, "moves "+text+"\norder\n", "moves "+text+"\nswap\n")
	}
	return append(desks, "moves a=b,b=a,c=a\nsteps t=a;a=b;b=t\n", "moves f=e,a=1,f=2\nmoves a=b,f=1\nsteps t=a;t=b\n", "moves e=f,f=e\ndirect\nfree ab\n")
}

func TestConstantsOfScripts(t *testing.T) {
	if impl.MaxScript != 20000 || impl.MaxLines != 100 || impl.MaxOutput != 40000 {
		t.Errorf("MaxScript = %d, MaxLines = %d, MaxOutput = %d", impl.MaxScript, impl.MaxLines, impl.MaxOutput)
	}
}

func TestFormatNumbers(t *testing.T) {
	tests := []struct {
		list []int
		want string
	}{
		{nil, "-"},
		{[]int{}, "-"},
		{make([]int, 0, 5), "-"},
		{[]int{0}, "0"},
		{[]int{7}, "7"},
		{[]int{-1}, "-1"},
		{[]int{1, 0, -3}, "1 0 -3"},
		{[]int{0, 0, 0}, "0 0 0"},
		{[]int{10, 100, -100, 9}, "10 100 -100 9"},
		{[]int{math.MaxInt64, math.MinInt64}, "9223372036854775807 -9223372036854775808"},
		{make([]int, 1000), strings.Repeat("0 ", 999) + "0"},
	}
	for _, test := range tests {
		before := slices.Clone(test.list)
		if got := impl.FormatNumbers(test.list); got != test.want {
			t.Errorf("FormatNumbers(%v) = %q, not %q", test.list, got, test.want)
		}
		if !slices.Equal(test.list, before) {
			t.Errorf("FormatNumbers changes %v to %v", before, test.list)
		}
	}
}

func TestScriptOfTheDocument(t *testing.T) {
	lines := []struct{ line, output string }{
		{"moves b=a,a=b,c=a", "b=a,a=b,c=a"},
		{"rings", "ab"},
		{"closed", "-"},
		{"wheels", "abc"},
		{"leaves", "c"},
		{"counts", "3 3 2 3"},
		{"searched", "3 3 1"},
		{"order", "c=a;a=b;b=c"},
		{"right", "true"},
		{"run 123456789xy", "211456789xy"},
		{"state 123456789xy", "211456789xy"},
		{"swap", "c=a;a~b"},
		{"touched", "abc"},
		{"right", "true"},
		{"cost 3", "4 3"},
		{"moves A=B,B=A", "A=B,B=A"},
		{"direct", "t=A;u=B;A=u;B=t"},
		{"traffic", "2 2"},
		{"isdirect", "true"},
		{"registers", "abcdef"},
		{"free ef", "e=A;f=B;A=f;B=e"},
		{"spare", "true"},
		{"moves a=b,b=c,c=a,d=e,e=d", "a=b,b=c,c=a,d=e,e=d"},
		{"again", "6 -1"},
		{"near", "a~b;b~c;d~e"},
		{"power 2", "a=c,b=a,c=b"},
		{"undo", "a=b,b=c,c=a"},
		{"then a=7", "a=7,b=c,c=a"},
		{"settles", "3"},
		{"back b", "bca7"},
		{"lost", "b"},
		{"wanted bc", "b=c;c=a"},
		{"for bc", "true"},
		{"needed bc", "ac"},
		{"keep c", "c=a"},
		{"call ba ab", "b=a,a=b"},
		{"args ba", "ab"},
		{"best 2 ba b1", "ba 1"},
		{"still", "false"},
		{"steps a=b;b=1;c=a", "a=b;b=1;c=a"},
		{"drop c", "a=b;c=a"},
		{"effect", "a=b,c=b"},
		{"busy", "a=b,c=b"},
		{"places", "abc"},
		{"foo", "what"},
	}
	script, output := "", ""
	for _, l := range lines {
		script += l.line + "\n"
		output += l.output + "\n"
		if got := impl.RunScript(script); got != output {
			t.Fatalf("behind %q: %q, not %q", l.line, got, output)
		}
	}
	checkScript(t, script)
}

// TestLinesOfTheTable has scripts with their outputs, worked out by hand, and the moves and steps behind the last line.
func TestLinesOfTheTable(t *testing.T) {
	tests := []struct{ script, outputs, list, seq string }{
		{"moves c=1,a=a", "c=1,a=a", "c=1,a=a", "-"},
		{"moves a=b|moves -", "a=b|-", "-", "-"},
		{"moves a=b|moves", "a=b|a=b", "a=b", "-"},
		{"steps c=1;t=t", "c=1;t=t", "-", "c=1;t=t"},
		{"steps a=b|steps -", "a=b|-", "-", "-"},
		{"steps a=b|steps", "a=b|a=b", "-", "a=b"},
		{"call fa a2", "f=a,a=2", "f=a,a=2", "-"},
		{"call bac aac", "b=a,a=a,c=c", "b=a,a=a,c=c", "-"},
		{"steps c=a;a=1|effect", "c=a;a=1|a=1,c=a", "a=1,c=a", "c=a;a=1"},
		{"moves f=f,c=a,a=a|busy", "f=f,c=a,a=a|c=a", "c=a", "-"},
		{"moves f=f,c=a,A=a|sort", "f=f,c=a,A=a|c=a,f=f,A=a", "c=a,f=f,A=a", "-"},
		{"moves b=c,c=a,a=b|undo", "b=c,c=a,a=b|a=c,b=a,c=b", "a=c,b=a,c=b", "-"},
		{"moves a=b|then b=a", "a=b|a=b", "a=b", "-"},
		{"moves b=a|then a=b,c=b", "b=a|b=a,c=a", "b=a,c=a", "-"},
		{"moves a=b,b=c|power 0", "a=b,b=c|-", "-", "-"},
		{"moves a=b,b=c|power 60", "a=b,b=c|a=c,b=c", "a=c,b=c", "-"},
		{"moves C=a,b=a,a=1|keep aC", "C=a,b=a,a=1|a=1,C=a", "a=1,C=a", "-"},
		{"moves b=a,c=b|order", "b=a,c=b|c=b;b=a", "b=a,c=b", "c=b;b=a"},
		{"moves d=C,C=d|order", "d=C,C=d|t=d;d=C;C=t", "d=C,C=d", "t=d;d=C;C=t"},
		{"moves a=b,b=a,c=7|fewest", "a=b,b=a,c=7|c=a;a=b;b=c;c=7", "a=b,b=a,c=7", "c=a;a=b;b=c;c=7"},
		{"moves d=C,C=d|swap", "d=C,C=d|d~C", "d=C,C=d", "d~C"},
		{"moves a=c,c=a|near", "a=c,c=a|a~b;b~c;a~b", "a=c,c=a", "a~b;b~c;a~b"},
		{"moves A=B|direct", "A=B|u=B;A=u", "A=B", "u=B;A=u"},
		{"moves a=b,b=a,c=a|wanted ab", "a=b,b=a,c=a|c=a;a=b;b=c", "a=b,b=a,c=a", "c=a;a=b;b=c"},
		{"steps a=1;b=a;a=2|drop b", "a=1;b=a;a=2|a=1;b=a", "-", "a=1;b=a"},
		{"steps t=a;u=t|free fe", "t=a;u=t|f=a;e=f", "-", "f=a;e=f"},
		{"moves a=b|steps a=b|right", "a=b|a=b|true", "a=b", "a=b"},
		{"moves a=b|steps b=a|right", "a=b|b=a|false", "a=b", "b=a"},
		{"moves a=b|steps c=1;a=b|for ab", "a=b|c=1;a=b|true", "a=b", "c=1;a=b"},
		{"moves a=b|steps c=1;a=b|for ac", "a=b|c=1;a=b|false", "a=b", "c=1;a=b"},
		{"steps a=A;B=u|isdirect", "a=A;B=u|true", "-", "a=A;B=u"},
		{"steps a=A;B=A|isdirect", "a=A;B=A|false", "-", "a=A;B=A"},
		{"moves a=b,b=a|spare", "a=b,b=a|true", "a=b,b=a", "-"},
		{"moves a=b,b=a,c=a|spare", "a=b,b=a,c=a|false", "a=b,b=a,c=a", "-"},
		{"moves a=b,c=1|still", "a=b,c=1|true", "a=b,c=1", "-"},
		{"moves a=b,b=1|still", "a=b,b=1|false", "a=b,b=1", "-"},
		{"moves a=b,b=a,A=C,C=A,c=a|rings", "a=b,b=a,A=C,C=A,c=a|ab AC", "a=b,b=a,A=C,C=A,c=a", "-"},
		{"moves a=b,b=a,A=C,C=A,c=a|closed", "a=b,b=a,A=C,C=A,c=a|AC", "a=b,b=a,A=C,C=A,c=a", "-"},
		{"moves a=b,b=a,A=C,C=A,c=a|wheels", "a=b,b=a,A=C,C=A,c=a|abc AC", "a=b,b=a,A=C,C=A,c=a", "-"},
		{"moves b=a,e=a|leaves", "b=a,e=a|be", "b=a,e=a", "-"},
		{"moves b=1,e=A|places", "b=1,e=A|beA", "b=1,e=A", "-"},
		{"moves b=1,e=A|lost", "b=1,e=A|be", "b=1,e=A", "-"},
		{"moves b=1,e=A|registers", "b=1,e=A|acdf", "b=1,e=A", "-"},
		{"moves a=b,c=d,e=f|registers", "a=b,c=d,e=f|-", "a=b,c=d,e=f", "-"},
		{"steps u=A;b~a|touched", "u=A;b~a|abu", "-", "u=A;b~a"},
		{"steps c=u;b~a;u=1|needed bc", "c=u;b~a;u=1|au", "-", "c=u;b~a;u=1"},
		{"steps a=1|needed a", "a=1|-", "-", "a=1"},
		{"steps A=B;a=C;A~d|traffic", "A=B;a=C;A~d|3 2", "-", "A=B;a=C;A~d"},
		{"moves A=B,B=A,c=1|counts", "A=B,B=A,c=1|3 4 2 5", "A=B,B=A,c=1", "-"},
		{"moves a=1,b=1|searched", "a=1,b=1|2 2 4", "a=1,b=1", "-"},
		{"moves a=b,b=c|settles", "a=b,b=c|2", "a=b,b=c", "-"},
		{"moves a=b,b=c,c=a|again", "a=b,b=c,c=a|3 1", "a=b,b=c,c=a", "-"},
		{"moves a=b,C=2|state 123456789xy", "a=b,C=2|223456782xy", "a=b,C=2", "-"},
		{"steps t=a;B=u|run 123456789xy", "t=a;B=u|1234567y91y", "-", "t=a;B=u"},
		{"moves a=b,b=2|back a", "a=b,b=2|ab2", "a=b,b=2", "-"},
		{"moves a=b,b=2|back C", "a=b,b=2|C", "a=b,b=2", "-"},
		{"moves a=b,b=2|args cab", "a=b,b=2|cb2", "a=b,b=2", "-"},
		{"moves a=b,b=a|swap|cost 0", "a=b,b=a|a~b|0 0", "a=b,b=a", "a~b"},
		{"moves a=b,b=a|swap|cost 100", "a=b,b=a|a~b|100 3", "a=b,b=a", "a~b"},
		{"moves a=b,b=a|cost 2", "a=b,b=a|0 2", "a=b,b=a", "-"},
		{"best 3 cab", "cab 0", "-", "-"},
		{"best 1 1 2 a a f", "a 3", "-", "-"},
		{"best 2 ba b1 ba", "ba 1", "-", "-"},
	}
	for _, test := range tests {
		checkLines(t, test.script, test.outputs)
		checkLines(t, test.script+"|moves|steps", test.outputs+"|"+test.list+"|"+test.seq)
	}
}

// TestLinesOnNothing has the lines of the table with no moves and no steps.
func TestLinesOnNothing(t *testing.T) {
	outputs := map[string]string{
		"right": "true", "isdirect": "true", "spare": "false", "still": "true", "registers": "abcdef",
		"traffic": "0 0", "counts": "0 0 0 0", "searched": "0 0 1", "settles": "0", "again": "1 1",
	}
	for _, line := range linesAlone {
		want, ok := outputs[line]
		if !ok {
			want = "-"
		}
		checkLines(t, line, want)
		checkLines(t, line+"|moves|steps", want+"|-|-")
	}
	for line, want := range map[string]string{
		"then -": "-", "then a=a": "-", "then a=b": "a=b", "power 60": "-", "keep abc": "-", "wanted abc": "-", "drop abc": "-", "free ab": "-",
		"for abc": "true", "needed bA": "bA", "state 0123456789a": "0123456789a", "run 0123456789a": "0123456789a", "back f": "f", "args fa": "fa", "cost 100": "0 0",
	} {
		checkLines(t, line, want)
	}
}

// TestEachLineOnEachDesk has all lines of the table with moves and steps of many kinds.
func TestEachLineOnEachDesk(t *testing.T) {
	for _, desk := range someDesks() {
		for _, line := range someLines() {
			checkScript(t, desk+line+"\nmoves\nsteps\n")
		}
	}
}

// TestEachLineBehindEachOther has all pairs of words of the table, and the moves and steps behind them.
func TestEachLineBehindEachOther(t *testing.T) {
	for _, desk := range []string{"moves a=b,b=a,c=a,d=2\nsteps t=a;a=b;A~B\n", "moves f=e,e=f,A=B,B=A\nsteps A=B;t=B\n"} {
		lines := slices.Clone(linesAlone)
		for word, rests := range someRests {
			lines = append(lines, word+" "+rests[len(rests)/2])
		}
		for _, first := range lines {
			for _, second := range lines {
				checkScript(t, desk+first+"\n"+second+"\nmoves\nsteps\n")
			}
		}
	}
}

// randomLine takes lines that are not refused most of the time.
func randomLine(r *rand.Rand) string {
	words := []string{}
	for word := range someRests {
		words = append(words, word)
	}
	slices.Sort(words)
	word := words[r.Intn(len(words))]
	switch r.Intn(16) {
	case 0:
		return unknownLines[r.Intn(len(unknownLines))]
	case 1:
		return word + " " + refusedRests[word][r.Intn(len(refusedRests[word]))]
	case 2:
		return linesAlone[r.Intn(len(linesAlone))] + " " + noRests[r.Intn(len(noRests))]
	case 3:
		return ""
	case 4, 5, 6, 7, 8, 9:
		return linesAlone[r.Intn(len(linesAlone))]
	case 10:
		return "moves " + impl.FormatMoves(randomMoves(r))
	case 11:
		return "steps " + impl.FormatSequence(randomSequence(r))
	}
	return word + " " + someRests[word][r.Intn(len(someRests[word]))]
}

func TestScriptsAgainstTheFunctions(t *testing.T) {
	r := rand.New(rand.NewSource(81))
	answers := map[string]int{}
	for range 1500 {
		lines := []string{}
		for range 1 + r.Intn(110) {
			lines = append(lines, randomLine(r))
		}
		script := strings.Join(lines, "\n") + []string{"", "\n", "\n\n"}[r.Intn(3)]
		checkScript(t, script)
		for _, line := range strings.Split(impl.RunScript(script), "\n") {
			answers[line]++
		}
		if t.Failed() {
			return
		}
	}
	for _, answer := range []string{"no", "what", "-", "true", "false", "full"} {
		if answers[answer] < 30 {
			t.Errorf("%d times %q", answers[answer], answer)
		}
	}
}

func TestEmptyScripts(t *testing.T) {
	for _, script := range []string{"", "\n", "\n\n", strings.Repeat("\n", 99), strings.Repeat("\n", 100), strings.Repeat("\n", 101), strings.Repeat("\n", 20000)} {
		if got := impl.RunScript(script); got != "" {
			t.Errorf("RunScript of %d newlines = %q", len(script), got)
		}
	}
}

func TestEmptyLinesAndTheLastLine(t *testing.T) {
	for _, script := range []string{"moves a=b\norder", "moves a=b\norder\n", "\nmoves a=b\norder", "moves a=b\n\n\norder\n", "\n\nmoves a=b\norder\n\n\n"} {
		if got := impl.RunScript(script); got != "a=b\na=b\n" {
			t.Errorf("RunScript(%q) = %q", script, got)
		}
	}
	// The rest of a last line without a newline goes to its end.
	checkLines(t, "moves a=b ", "no")
	checkLines(t, "keep ", "-")
	checkLines(t, "keep", "what")
}

// TestEmptyRests has each word of the table with an empty rest, which is none of moves and steps, but no wanted places and no free registers.
func TestEmptyRests(t *testing.T) {
	outputs := map[string]string{"keep ": "-", "wanted ": "-", "drop ": "-", "free ": "t=a;a=b", "for ": "true", "needed ": "-"}
	for _, word := range linesAlone {
		if someRests[word] == nil {
			outputs[word+" "] = "what"
		}
	}
	for word := range someRests {
		if outputs[word+" "] == "" {
			outputs[word+" "] = "no"
		}
	}
	for line, want := range outputs {
		checkLines(t, "moves a=b,b=1|steps t=a;a=b|"+line, "a=b,b=1|t=a;a=b|"+want)
	}
	if len(outputs) != 43 {
		t.Errorf("%d words", len(outputs))
	}
}

// checkNothingChanges has a line behind lines that set moves and steps, and the moves and steps behind it.
func checkNothingChanges(t *testing.T, line string, want string) {
	t.Helper()
	for _, desk := range []string{"-\n-\n", "a=b,b=a,c=a\nt=a;a=b;b=t\n", "e=f,f=e,A=7\nt=A;A=B;a~b\n"} {
		list, seq, _ := strings.Cut(desk, "\n")
		script := "moves " + list + "\nsteps " + seq + line + "\nmoves\nsteps\n"
		if got := impl.RunScript(script); got != desk+want+"\n"+desk {
			t.Errorf("RunScript(%q) = %q, not %q with %q", script, got, want, desk)
		}
	}
}

func TestWordsWithoutTheRestTheyNeed(t *testing.T) {
	for word := range someRests {
		if !slices.Contains(linesAlone, word) {
			checkNothingChanges(t, word, "what")
		}
	}
}

func TestRestsThatNoLineNeeds(t *testing.T) {
	for _, word := range linesAlone {
		if someRests[word] != nil {
			continue
		}
		for _, rest := range noRests {
			checkNothingChanges(t, word+" "+rest, "what")
		}
	}
}

func TestLinesThatAreNone(t *testing.T) {
	for _, line := range unknownLines {
		checkNothingChanges(t, line, "what")
	}
	for _, word := range linesAlone {
		for _, line := range []string{strings.ToUpper(word), word + "s", word + "\t", word + "\r", " " + word, "\t" + word, word[:len(word)-1], word + "=", word + ";moves"} {
			checkNothingChanges(t, line, "what")
		}
	}
	for word, rests := range someRests {
		// A tab or another sign does not part a word from its rest.
		for _, line := range []string{strings.ToUpper(word) + " " + rests[1], " " + word + " " + rests[1], word + "\t" + rests[1], word + "s " + rests[1], word + "!" + rests[1]} {
			checkNothingChanges(t, line, "what")
		}
	}
}

func TestRefusedRests(t *testing.T) {
	for word, rests := range refusedRests {
		for _, rest := range rests {
			checkNothingChanges(t, word+" "+rest, "no")
		}
	}
	if len(refusedRests) != len(someRests) {
		t.Errorf("%d words, not %d", len(refusedRests), len(someRests))
	}
}

// TestRefusedOnSomeDesks has lines that the table shows, but that moves or steps have no result for.
func TestRefusedOnSomeDesks(t *testing.T) {
	for list, lines := range map[string]string{
		// No exchange.
		"a=b":         "undo near again",
		"a=b,b=a,c=a": "undo near again",
		"a=b,b=1":     "undo near again",
		// More than four places.
		"a=b,c=d,e=1":         "undo near again fewest searched",
		"a=b,b=c,c=d,d=e,e=a": "fewest searched",
		"a=a,b=b,c=c,d=d,A=A": "fewest searched",
	} {
		for _, line := range strings.Fields(lines) {
			checkLines(t, "moves "+list+"|steps u=1|"+line+"|moves|steps", list+"|u=1|no|"+list+"|u=1")
		}
	}
	// Moves to places that are no parameters.
	for _, params := range []string{"a", "c", "ac", "cdef"} {
		checkLines(t, "moves a=b,b=a,c=c|args "+params+"|moves", "a=b,b=a,c=c|no|a=b,b=a,c=c")
	}
	// Steps that read a spare place.
	for _, seq := range []string{"a=t", "t=u;C=t", "b~u"} {
		checkLines(t, "moves f=1|steps "+seq+"|right|effect|moves|steps", "f=1|"+seq+"|false|no|f=1|"+seq)
	}
	// A spare place that has a value of a place by then.
	checkLines(t, "moves f=1|steps t=a;b=t;t~u;u=2|effect", "f=1|t=a;b=t;t~u;u=2|b=a")
	// Registers that stand in steps.
	for _, free := range []string{"a", "c", "ea", "ce"} {
		checkLines(t, "steps t=a;c=1|free "+free+"|steps", "t=a;c=1|no|t=a;c=1")
	}
}

// TestNumbersThatMayBeNegative has lines whose numbers behind the first one are -1, but which are not refused.
func TestNumbersThatMayBeNegative(t *testing.T) {
	checkLines(t, "moves a=b,b=a|searched|again", "a=b,b=a|3 -1 2|2 -1")
	checkLines(t, "moves a=b,b=c,c=d,d=a|searched|again", "a=b,b=c,c=d,d=a|5 -1 4|4 -1")
	checkLines(t, "moves a=b,b=c,c=a,d=e,e=d|again|searched", "a=b,b=c,c=a,d=e,e=d|6 -1|no")
}

func TestNumbersOfScripts(t *testing.T) {
	ring := "a=b,b=c,c=a"
	for text, want := range map[string]string{"0": "-", "1": ring, "2": "a=c,b=a,c=b", "3": "-", "59": "a=c,b=a,c=b", "60": "-", "61": "no", "10": ring} {
		checkLines(t, "moves "+ring+"|power "+text, ring+"|"+want)
	}
	for text, want := range map[string]string{"0": "1 0", "1": "2 2", "2": "3 4", "9": "10 4", "10": "11 4", "99": "100 4", "100": "101 4", "101": "no"} {
		checkLines(t, "moves "+ring+"|steps a~b;d=1|cost "+text, ring+"|a~b;d=1|"+want)
	}
	for n := range 5 {
		want := "no"
		if n > 0 {
			want = "abcd"[:n] + " 0"
		}
		checkLines(t, fmt.Sprintf("best %d", n), want)
	}
}

func TestArgumentsOfBest(t *testing.T) {
	for line, want := range map[string]string{
		"best 1": "a 0", "best 4": "abcd 0", "best 1 b": "b 0", "best 2 ba": "ba 0", "best 2 ba b1": "ba 1", "best 3 cab cab cab": "cab 0", "best 2 12 12 12 12": "ab 8",
		"best 2 aa ba": "ba 1", "best 2 a1 aa ca": "ca 3", "best 1 f e d c b": "b 4", "best 1 f e d c b a": "no", "best 1 a a a a a": "a 0", "best 1 a a a a a a": "no", "best 1 a a a a a a a": "no",
		"best 4 fedc fedc 1234 ABCA 0000": "fedc 12", "best 4 fedc fedc 1234 ABCA 0000 fedc": "no",
	} {
		checkLines(t, line, want)
	}
}

func TestMostBytesOfAScript(t *testing.T) {
	line := "moves a=b\n"
	for script, want := range map[string]string{
		line + strings.Repeat("\n", 20000-len(line)):       "a=b\n",
		line + strings.Repeat("\n", 20001-len(line)):       "long\n",
		strings.Repeat("x", 20000):                         "what\n",
		strings.Repeat("x", 20001):                         "long\n",
		strings.Repeat("x", 20000) + "\n":                  "long\n",
		"keep " + strings.Repeat("a", 19995):               "no\n",
		"keep " + strings.Repeat("a", 19996):               "long\n",
		strings.Repeat("\u00e9", 10000):                    "what\n",
		strings.Repeat("\u00e9", 10000) + "x":              "long\n",
		strings.Repeat("\n", 20001):                        "long\n",
		strings.Repeat("moves a=b\n", 100*1000):            "long\n",
		strings.Repeat("moves a=b\n", 99) + "spare\nspare": strings.Repeat("a=b\n", 99) + "false\nfull\n",
	} {
		if got := impl.RunScript(script); got != want {
			t.Errorf("RunScript of %d bytes %.20q = %.40q, not %.40q", len(script), script, got, want)
		}
	}
}

func TestMostLines(t *testing.T) {
	for _, test := range []struct {
		ahead, between int // empty lines ahead of a line, and between it and another one
		want           string
	}{
		{0, 0, "a=b\na=b\n"},
		{0, 98, "a=b\na=b\n"},
		{98, 0, "a=b\na=b\n"},
		{0, 99, "a=b\nfull\n"},
		{99, 0, "a=b\nfull\n"},
		{50, 48, "a=b\na=b\n"},
		{50, 49, "a=b\nfull\n"},
		{0, 5000, "a=b\nfull\n"},
		{100, 0, "full\n"},
		{101, 7, "full\n"},
	} {
		script := strings.Repeat("\n", test.ahead) + "moves a=b\n" + strings.Repeat("\n", test.between) + "moves"
		for _, end := range []string{"", "\n", strings.Repeat("\n", 200)} {
			if got := impl.RunScript(script + end); got != test.want {
				t.Errorf("%d empty lines ahead, %d between, and %q: %q, not %q", test.ahead, test.between, end, got, test.want)
			}
			checkScript(t, script+end)
		}
	}
}

// TestLinesBehindTheMostLines has lines of all kinds behind a hundred of all kinds.
func TestLinesBehindTheMostLines(t *testing.T) {
	for line, output := range map[string]string{"moves a=b": "a=b\n", "foo": "what\n", "moves x": "no\n", "": ""} {
		hundred := strings.Repeat(line+"\n", 100)
		for _, rest := range []string{"", "\n", "\n\n"} {
			if got := impl.RunScript(hundred + rest); got != strings.Repeat(output, 100) {
				t.Errorf("a hundred lines %q and %q: %q", line, rest, got)
			}
		}
		for _, next := range []string{"moves", "foo", "moves x", " ", "\n\nmoves\n", "moves\nfoo\nsteps\n"} {
			if got := impl.RunScript(hundred + next); got != strings.Repeat(output, 100)+"full\n" {
				t.Errorf("a hundred lines %q and %q: %q", line, next, got)
			}
		}
	}
}

// TestGreatestOutput has the longest output of all scripts: a hundred lines of as many steps as there may be are still fewer bytes than MaxOutput.
func TestGreatestOutput(t *testing.T) {
	seq := stepTimes(impl.MaxSteps)
	script := "steps " + seq + strings.Repeat("\nsteps", 99)
	want := strings.Repeat(seq+"\n", 100)
	if got := impl.RunScript(script); got != want || len(want) != 24000 {
		t.Errorf("%d bytes, not %d", len(got), len(want))
	}
	if got := impl.RunScript(script + "\nsteps\nsteps"); got != want+"full\n" {
		t.Errorf("%d bytes, not %d and full", len(got), len(want))
	}
}

func TestMostStepsOfScripts(t *testing.T) {
	most := stepTimes(60)
	checkLines(t, "steps "+most+"|drop a|steps "+stepTimes(61)+"|steps", most+"|a=b|no|a=b")
}

// TestScriptsKeepNothing runs scripts behind others and at the same time.
func TestScriptsKeepNothing(t *testing.T) {
	script := "moves a=b,b=a\nsearched\norder\nfree e\n"
	want := "a=b,b=a\n3 -1 2\nt=a;a=b;b=t\ne=a;a=b;b=e\n"
	outputs := make(chan string)
	for range 20 {
		go func() { outputs <- impl.RunScript(script) }()
	}
	for range 20 {
		if got := <-outputs; got != want {
			t.Errorf("RunScript = %q", got)
		}
	}
	if got := impl.RunScript("moves\nsteps"); got != "-\n-\n" {
		t.Errorf("RunScript = %q", got)
	}
}

// TestScriptsOfAnyBytes has texts that are mostly no lines of the table.
func TestScriptsOfAnyBytes(t *testing.T) {
	r := rand.New(rand.NewSource(82))
	pieces := append(slices.Concat(linesAlone, unknownLines, noRests, notNumberRests, someWanted), " ", " ", "\n", "\n", "\n", "best ", "power ", "keep ", "call ab ", "moves ", "=", "a", "~", ";", ",")
	for range 3000 {
		script := ""
		for range r.Intn(40) {
			script += pieces[r.Intn(len(pieces))]
		}
		checkScript(t, script)
	}
	for range 1000 {
		bytes := make([]byte, r.Intn(100))
		r.Read(bytes)
		checkScript(t, string(bytes))
	}
}
